/- In one text: SplCopy, Says, SplFit, SplJoin, SeeFirst, RndLaid, SeeFind. -/
import Derived.Laws.CopyOwn
import Derived.Handy
import Derived.Lib.Hide
import Derived.Lib.LaidTab
import Derived.MakeChecks
import Derived.Stop.Joined
import Derived.OpenShut
import Derived.Test.YtpfmmfapdcbnkaaGreatDoorMB1
import Derived.Test.YtpfmmfapdcbnkaaGreatDoorMB2
import Derived.Test.YtpfmmfapdcbnkaaGreatDoorMB3
import Derived.Test.YtpfmmfapdcbnkaaGreatDoorMB8
import Derived.Test.YtpfmmfapdcbnkaaGreatDoorMB10
import Derived.Test.YtpfmmfapdcbnkaaGreatDoorMB12
import Derived.Test.YtpfmmfapdcbnkaaGreatDoorMB14
namespace Go.Proofs.YtpfmmfapdcbnkaaGreatDoor
set_option maxRecDepth 20000
open Go.RowKit Go.Deep
set_option linter.unusedVariables false
theorem grown_exts {a b c : World} {r : Option Nat} (h : a.grownBy b r) (k : b.Extends c) : a.grownBy c r :=
  grown_trans h ⟨k.os, k.tape, k.output, k.size, fun i hi _ => k.block i hi⟩
theorem PAt.own {w w' : World} {b : Nat} {k s h : Int} {r : Option Nat} (hp : PAt w b k s h) (hg : w.grownBy w' r) (hn : ∀ x, r = some x → b < x) : PAt w' b k s h :=
  have e : some b ≠ r := fun e => by have := hn b e.symm; omega
  ⟨hg.cell hp.1 e, hg.cell hp.2.1 e, hg.cell hp.2.2 e⟩
theorem PAt.but {w w' : World} {b g : Nat} {k s h : Int} (hp : PAt w b k s h) (hg : w.grownBy w' (some g)) (hn : b ≠ g) : PAt w' b k s h :=
  ⟨hg.cell hp.1 (by simp; omega), hg.cell hp.2.1 (by simp; omega), hg.cell hp.2.2 (by simp; omega)⟩
theorem RowOk.butRow {w w' : World} {u : Value} {xs : List Nat} {g n : Nat} {T : TypeId} {f : Nat → Value} (h : RowOk w 0 u xs) (hr : w.rowIs g T n f) (hT : T ≠ 5) (hg : w.grownBy w' (some g)) : RowOk w' 0 u xs := by
  refine h.grown hg ?_
  rcases h.2 with h0 | h0
  · exact .inl h0
  · refine .inr fun e => ?_
    obtain ⟨_, h1 | ⟨cs, h1⟩⟩ := h0 g e
    · omega
    · obtain ⟨cs', hc, _⟩ := hr
      rw [h1] at hc
      simp only [Option.some.injEq, Obj.cells.injEq] at hc
      exact hT hc.2.1.symm
theorem Mats.butRow {w w' : World} {B k g n : Nat} {T T1 : TypeId} {v : Value} {l : List (List Nat)} {f : Nat → Value} (h : Mats w B 0 T1 v k l) (hgB : g < B) (hr : w.rowIs g T n f) (hT : T ≠ 5) (hg : w.grownBy w' (some g)) : Mats w' B 0 T1 v k l := by
  obtain ⟨vs, ho, hv⟩ := h
  refine ⟨vs, ho.kept hg ?_, fun j hj => ?_⟩
  · cases hb : v.ownBlock with
    | none => exact .inl rfl
    | some x => exact .inr (by have := (ho.lt x hb).1; simp; omega)
  · obtain ⟨u, h1, h2⟩ := hv j hj
    exact ⟨u, h1, h2.butRow hr hT hg⟩
theorem Own.ok {w : World} {b n : Nat} {xs : List Nat} (h : Own w b 5 xs) (hn : xs.length = n) : RowOk w 0 (.slice (some ⟨b, 0, none⟩) n n) xs := RowOk.own h 0 hn.symm hn.symm
theorem splice_at (s : Nat) (ys : List Nat) (i : Nat) (hi : i < s) : (splice (List.replicate s (Value.int .u8 0)) 0 (u8vs (ys.take s)))[i]? = some (.int .u8 (ys.getD i 0 : Nat)) := by
  unfold splice
  rw [List.take_zero, List.nil_append, Nat.zero_add, u8vs_length]
  by_cases h : i < (ys.take s).length
  · rw [List.getElem?_append_left (by rw [u8vs_length]; exact h)]
    have h' : i < ys.length := by rw [List.length_take] at h; omega
    simp [u8vs, hi, h']
  · have h' : ¬ i < ys.length := by rw [List.length_take] at h; omega
    rw [List.getElem?_append_right (by rw [u8vs_length]; omega), u8vs_length, List.getElem?_drop, show (ys.take s).length + (i - (ys.take s).length) = i by omega]
    simp [hi, List.getElem?_eq_none (Nat.le_of_not_lt h')]
theorem splice_length (s : Nat) (ys : List Nat) : (splice (List.replicate s (Value.int .u8 0)) 0 (u8vs (ys.take s))).length = s := by
  rw [length_splice _ _ _ (by rw [u8vs_length, List.length_take, List.length_replicate]; omega), List.length_replicate]
/-- The row that copy has filled: the symbol. -/
theorem own_copied {w : World} {r s j : Nat} {T : TypeId} {xs : List Nat} (hs : s ≤ maxLen) (hl : ∀ x ∈ xs, x < 256)
    (h : w.heap[r]? = some (.cells (splice (List.replicate s (Value.int .u8 0)) 0 (u8vs ((xs.drop (j * s)).take s))).toArray T (0, 0))) : Own w r T (CM.sym s xs j) := by
  refine ⟨⟨_, h, ?_, fun i hi => ?_⟩, by rw [CM.sym_length]; exact hs, CM.sym_lt s xs j hl⟩
  · rw [List.size_toArray, splice_length, CM.sym_length]
  · rw [CM.sym_length] at hi
    have := splice_at s (xs.drop (j * s)) i hi
    rw [List.getElem?_toArray, this]
    show _ = some (Value.int .u8 ((CM.sym s xs j).getD i 0 : Nat))
    rw [CM.sym_at s xs j i hi]
    simp [List.getD_eq_getElem?_getD, List.getElem?_drop]
theorem drop_next (s j : Nat) (xs : List Nat) : (xs.drop (j * s)).drop (u8vs ((xs.drop (j * s)).take s)).length = xs.drop ((j + 1) * s) := by
  rw [u8vs_length, List.length_take, List.length_drop, List.drop_drop, Nat.add_mul, Nat.one_mul]
  by_cases h : j * s + s ≤ xs.length
  · rw [Nat.min_eq_left (by omega)]
  · rw [List.drop_eq_nil_of_le (by omega), List.drop_eq_nil_of_le (by omega)]
theorem rowlistinfo : (Tryz.prog.info? 87).map (fun i => (i.zero, i.size, i.bytes)) = some (some (.slice none 0 0), 1, 24) := by kernel_rfl
theorem mkRowLists (k : Nat) (hk : k ≤ 10000) (w : World) : (Instr.makeSlice 83 (.int .i64 (k : Int)) (.int .i64 (k : Int))).run Tryz.prog w = .ok (.slice (some ⟨w.heap.size, 0, none⟩) k k) (w.alloc (.cells (madeCells #[.slice none 0 0] k) 87)) :=
  run_make_row' (P := Tryz.prog) 83 87 (.slice none 0 0) 24 Tryz.underlying83 rowlistinfo rfl .i64 .i64 k (by omega) (by omega) w
/-- The first q blocks are laid: cells of block g. -/
def CutTo (w : World) (g n q : Nat) (vals : Nat → Value) (s y : Nat) (xs : List Nat) : Prop :=
  w.rowIs g 87 n vals ∧ (∀ c, c < q → Mats w (g + 1) 0 99 (vals c) (CM.deal y n c) (CM.blk s xs (CM.ahead y n c) (CM.deal y n c))) ∧ ∀ c, q ≤ c → vals c = .slice none 0 0
theorem CutTo.made (w : World) (n s y : Nat) (xs : List Nat) : CutTo (w.alloc (.cells (madeCells #[.slice none 0 0] n) 87)) w.heap.size n 0 (fun _ => .slice none 0 0) s y xs :=
  ⟨World.rowIs_made w (.slice none 0 0) n 87, fun c hc => absurd hc (Nat.not_lt_zero _), fun _ _ => rfl⟩
theorem CutTo.ext {w w' : World} {g n q : Nat} {vals : Nat → Value} {s y : Nat} {xs : List Nat} (h : CutTo w g n q vals s y xs) (hx : w.Extends w') : CutTo w' g n q vals s y xs :=
  ⟨h.1.of_block (hx.block g h.1.lt), fun c hc => (h.2.1 c hc).ext hx, h.2.2⟩
theorem copy_src {w : World} {a : Option Addr} {n cap : Nat} {ys : List Nat} (h : U8s w (.slice a n cap) ys) (s : Nat) (h0 : 0 < (u8vs (ys.take s)).length) : ∃ ad, a = some ad ∧ ∀ j v, (u8vs (ys.take s))[j]? = some v → w.cell? (ad.add j) = some v := by
  rw [u8vs_length, List.length_take] at h0
  obtain ⟨hn, hc⟩ := h.cell
  obtain ⟨b, off, rfl, _, hc⟩ := hc (by omega)
  refine ⟨_, rfl, fun j v hv => ?_⟩
  obtain ⟨hj, rfl⟩ := u8vs_at _ _ _ hv
  rw [List.length_take] at hj
  rw [Addr.add_mid, hc j (by omega)]
  simp [List.getD_eq_getElem?_getD, show j < s by omega]
theorem u8vs_one (ys : List Nat) : ∀ v ∈ u8vs ys, v.oneCell' = true := fun v hv => by
  obtain ⟨x, _, rfl⟩ := List.mem_map.1 hv; rfl
theorem bytesize : (Tryz.prog.info? 5).map (·.size) = some 1 := by kernel_rfl
theorem made_bytes (w : World) (s : Nat) : (w.alloc (.cells (madeCells #[.int .u8 0] s) 5)).heap[w.heap.size]? = some (.cells (List.replicate s (Value.int .u8 0)).toArray 5 (0, 0)) := by
  rw [heap_alloc_new]
  obtain ⟨c, hc, hs, hi⟩ := World.rowIs_made w (.int .u8 0) s 5
  rw [heap_alloc_new] at hc
  rw [hc]
  congr 2
  apply Array.ext
  · simp [hs]
  · intro i h1 h2
    have := hi i (by omega)
    rw [Array.getElem?_eq_getElem h1] at this
    simpa using this
/-- .. and block q, too. -/
theorem CutTo.next {wo w : World} {g n q : Nat} {vals : Nat → Value} {s y : Nat} {xs : List Nat} {u : Value} (h : CutTo wo g n q vals s y xs) (hg : wo.grownBy w (some g)) (hr : w.rowIs g 87 n (fun c => if c = q then u else vals c))
    (hu : Mats w wo.heap.size 0 99 u (CM.deal y n q) (CM.blk s xs (CM.ahead y n q) (CM.deal y n q))) : CutTo w g n (q + 1) (fun c => if c = q then u else vals c) s y xs := by
  have hlt := h.1.lt
  refine ⟨hr, fun c hc => ?_, fun c hc => ?_⟩
  · by_cases e : c = q
    · subst e; simp only [if_true]; exact hu.base (by omega)
    · simp only [if_neg e]
      exact (h.2.1 c (by omega)).butRow (by omega) h.1 (by decide) hg
  · simp only [if_neg (show ¬ c = q by omega)]
    exact h.2.2 c (by omega)
theorem CutTo.rws {w : World} {g n : Nat} {vals : Nat → Value} {s m : Nat} {xs : List Nat} (h : CutTo w g n n vals s (CM.sy xs.length s) xs) (hn : n = CM.bl xs.length s m) (hm : n ≤ maxLen) : RwsL w (.slice (some ⟨g, 0, none⟩) n n) (CM.cut xs.length s m xs) := by
  subst hn
  refine RwsL.row h.1 hm (CM.cut_length _ _ _ _) fun k hk => ?_
  rw [CM.cut_at _ _ _ _ _ hk, CM.kk_in _ _ _ _ hk]
  exact (h.2.1 k hk).rws (CM.blk_length _ _ _ _).symm
/-- What Cut answers. -/
def CutOut (w : World) (er : Nat) (L : List (List (List Nat))) (e : Ending) (w' : World) : Prop := ∃ v, e = .returned (.tuple #[v, .int .i64 (er : Nat)]) ∧ w.Extends w' ∧ RwsL w' v L
end Go.Proofs.YtpfmmfapdcbnkaaGreatDoor
namespace Go.Proofs.YtpfmmfapdcbnkaaGreatDoor
set_option maxRecDepth 20000
open Go.RowKit
set_option linter.unusedVariables false
/-- Does each row have size elements? -/
def AllB (size : Int) (l : List (List Nat)) : Prop := ∀ k, k < l.length → ((l.getD k []).length : Int) = size
/-- The answer tells whether P. -/
def Says (P : Prop) (w : World) (e : Ending) (w' : World) : Prop := (∃ b : Bool, e = .returned (.bool b) ∧ (b = true ↔ P)) ∧ w.Extends w'
theorem Says.yes {P : Prop} {w w' : World} (h : P) (hx : w.Extends w') : Says P w (.returned (.bool true)) w' := ⟨⟨true, rfl, fun _ => h, fun _ => rfl⟩, hx⟩
theorem Says.no {P : Prop} {w w' : World} (h : ¬ P) (hx : w.Extends w') : Says P w (.returned (.bool false)) w' := ⟨⟨false, rfl, fun h' => (by cases h'), fun h' => absurd h' h⟩, hx⟩
end Go.Proofs.YtpfmmfapdcbnkaaGreatDoor
namespace Go.Proofs.YtpfmmfapdcbnkaaGreatDoor
set_option maxRecDepth 20000
open Go.RowKit Go.Deep
set_option linter.unusedVariables false
theorem sallOf_any (size : Int) (v : Value) (l : List (List Nat)) (w : World) (hv : Rws w v l) :
    Calls Tryz.prog 87 #[.int .i64 size, v] w (Says (AllB size l) w) := by
  have hm := hv.len
  obtain ⟨a, cap, rfl, _⟩ := hv.slice
  have HV := Lib.hid hv.at.2
  have HALL : Hid ((∀ k, k < l.length → ((l.getD k []).length : Int) = size) ↔ AllB size l) := Iff.rfl
  clear hv
  generalize hn : l.length = n at *
  have HN := Lib.hid hn; clear hn
  unfold maxLen at hm
  go_enter Tryz.func87, Tryz.ntmps87
  go_wp2_with fail
  go_loopw [9] (fun i wr => ∃ k : Nat, k ≤ n ∧ i = .int .i64 k ∧ Hid (w.Extends wr) ∧ Hid (∀ i, i < k → ((l.getD i []).length : Int) = size)) (fun i _ => (n - intOf i).toNat)
  case atStart => exact ⟨0, by omega, rfl, Lib.hid (Gr.ext_refl _), Lib.hid (fun i hi => absurd hi (Nat.not_lt_zero _))⟩
  case round =>
    obtain ⟨k, hk, rfl, HX, HK⟩ := hrel
    by_cases h1 : k < n
    · obtain ⟨b1, o1, rfl, hb1, hc1⟩ := HV.out (by omega)
      obtain ⟨ra, rc, hc3, hr0⟩ := hc1 k h1
      have hc2 := HX.out.cell_of hc3
      clear hc1 hc3 hr0
      have HK2 : Hid (((l.getD k []).length : Int) = size → ∀ i, i < k + 1 → ((l.getD i []).length : Int) = size) := fun h2 i hi => by
        by_cases e : i = k
        · subst e; exact h2
        · exact HK.out i (by omega)
      have HK3 : Hid (AllB size l → ((l.getD k []).length : Int) = size) := fun h => h k (by rw [HN.out]; exact h1)
      generalize (l.getD k []).length = r at *
      by_cases h2 : (r : Int) = size
      · have hne : ((r : Int) != size) = false := by simpa using h2
        have HK4 := Lib.hid (HK2.out h2)
        clear h2 HK2 HK3
        go_wp2
        go_roundw
        case rel => exact ⟨k + 1, by omega, by go_num, HX, HK4⟩
        case measure => simp [intOf]; omega
      · have hne : ((r : Int) != size) = true := by simpa using h2
        have HP : Hid (Says (AllB size l) w (.returned (.bool false)) wr) := Says.no (fun h => h2 (HK3.out h)) HX.out
        clear h2 HK2 HK3
        go_wp2
        go_ret
        exact HP.out
    · obtain rfl : k = n := by omega
      have HP : Hid (Says (AllB size l) w (.returned (.bool true)) wr) := Says.yes (fun i hi => HK.out i (by rw [← HN.out]; exact hi)) HX.out
      go_wp2
      go_ret
      exact HP.out
set_option maxHeartbeats 1000000 in
theorem fit_any (b s m : Nat) (v : Value) (L : List (List (List Nat))) (w : World) (h : CM.Right b s m) (hv : RwsL w v L) :
    Calls Tryz.prog 70 #[PV b s m, v] w (Says (CM.Fit b s m L) w) := by
  have hm := hv.len
  obtain ⟨va, vc, rfl, _⟩ := hv.slice
  have HV := Lib.hid hv.at.2
  have HB := Lib.hid (fun w => blocks_yes b s m w h)
  have HK := Lib.hid (fun w i hi => k_in b s m i w h hi)
  have HFIT : Hid ((L.length = CM.bl b s m ∧ ∀ i, i < L.length → (L.getD i []).length = CM.kk b s m i ∧ ∀ j, j < (L.getD i []).length → ((L.getD i []).getD j []).length = s) ↔ CM.Fit b s m L) := Iff.rfl
  obtain ⟨h1, h2, h3, h4, h5, h6⟩ := CM.right_of h
  have hyl := CM.sy_le b s h1
  have hnl := CM.bl_le b s m
  have HKL : Hid (∀ i, CM.kk b s m i ≤ 40) := fun i => Nat.le_trans (CM.kk_le b s m i h5) h6
  unfold maxLen at hm
  clear hv
  generalize CM.Fit b s m L = Ft at *
  generalize CM.bl b s m = n at *
  generalize CM.sy b s = y at *
  generalize CM.kk b s m = kk at *
  obtain ⟨ln, hln⟩ : ∃ ln, ln = L.length := ⟨_, rfl⟩
  rw [← hln] at HV HFIT hm ⊢
  clear hln h
  go_enter Tryz.func70, Tryz.ntmps70
  go_wp2_with fail
  generalize hw1 : World.alloc w _ = w1
  have hx1 : w.Extends w1 := by subst hw1; exact prm_ext_alloc _ _
  have hp : PAt w1 w.heap.size b s m := by subst hw1; exact PAt.new w 25 b s m
  generalize w.heap.size = bx at hp ⊢
  clear hw1
  have HX1 := Lib.hid hx1
  have HP1 := Lib.hid hp
  have hb1 := hp.lt
  obtain ⟨p0, p1, p2⟩ := hp
  clear hx1
  refine (HB.out w1).mono ?_
  rintro e w2 ⟨rfl, hx⟩
  have HX2 := Lib.hid (Gr.ext_trans HX1.out hx)
  have HP2 := Lib.hid (HP1.out.ext hx)
  have hb2 := HP2.out.lt
  clear p0 p1 p2 hx
  by_cases h7 : ln = n
  · have hne : ((ln : Int) != n) = false := by simp; omega
    have HLN := Lib.hid h7
    clear h7
    go_wp2_with fail
    go_loopw [14] (fun i wr => ∃ q : Nat, q ≤ ln ∧ i = .int .i64 q ∧ Hid (w2.Extends wr) ∧ Hid (∀ i, i < q → (L.getD i []).length = kk i ∧ ∀ j, j < (L.getD i []).length → ((L.getD i []).getD j []).length = s)) (fun i _ => (ln - intOf i).toNat)
    case atStart => exact ⟨0, by omega, rfl, Lib.hid (Gr.ext_refl _), Lib.hid (fun i hi => absurd hi (Nat.not_lt_zero _))⟩
    case round =>
      obtain ⟨q, hq, rfl, HX, HQ⟩ := hrel
      by_cases h8 : q < ln
      · obtain ⟨bb, o1, rfl, hbb, hc1⟩ := HV.out (by omega)
        obtain ⟨ra, rc, hc3, hr0⟩ := hc1 q h8
        have HXW := Lib.hid (Gr.ext_trans HX2.out HX.out)
        have hc2 := HXW.out.cell_of hc3
        have HR := Lib.hid (hr0.ext HXW.out)
        have HPr := Lib.hid (HP2.out.ext HX.out)
        have hbr := HPr.out.lt
        obtain ⟨p0, p1, p2⟩ := HPr.out
        have hrl := hr0.len
        unfold maxLen at hrl
        have hkl := HKL.out q
        have HNX : Hid ((L.getD q []).length = kk q → (∀ j, j < (L.getD q []).length → ((L.getD q []).getD j []).length = s) → ∀ i, i < q + 1 → (L.getD i []).length = kk i ∧ ∀ j, j < (L.getD i []).length → ((L.getD i []).getD j []).length = s) := fun e1 e2 i hi => by
          by_cases e : i = q
          · subst e; exact ⟨e1, e2⟩
          · exact HQ.out i (by omega)
        have HNO : Hid (Ft → (L.getD q []).length = kk q ∧ ∀ j, j < (L.getD q []).length → ((L.getD q []).getD j []).length = s) := fun hf => (HFIT.out.2 hf).2 q h8
        clear hc1 hc3 hr0
        generalize L.getD q [] = l at *
        have HKq := Lib.hid (fun w => HK.out w q (by have := HLN.out; omega))
        generalize kk q = k at *
        obtain ⟨r, hr⟩ : ∃ r, r = l.length := ⟨_, rfl⟩
        have HRL := Lib.hid hr
        rw [← hr] at hc2 hrl
        have HR' : Hid (Rws wr (.slice ra r rc) l) := by have := HR.out; rw [← hr] at this; exact this
        clear hr
        go_wp2_with fail
        refine (HKq.out wr).mono ?_
        rintro e w3 ⟨rfl, hx⟩
        have HX3 := Lib.hid (Gr.ext_trans HX.out hx)
        have HP3 := Lib.hid (HPr.out.ext hx)
        have HR3 := Lib.hid (HR'.out.ext hx)
        have hb3 := HP3.out.lt
        clear p0 p1 p2 hx hc2
        obtain ⟨p0, p1, p2⟩ := HP3.out
        by_cases h9 : r = k
        · have hne2 : ((r : Int) != k) = false := by simp; omega
          have H9 := Lib.hid h9
          clear h9
          go_wp2_with fail
          refine (sallOf_any s _ l w3 HR3.out).mono ?_
          rintro e w4 ⟨⟨ok, rfl, hok⟩, hx⟩
          have HX4 := Lib.hid (Gr.ext_trans HX3.out hx)
          have HAL : Hid (AllB s l ↔ ∀ j, j < l.length → (l.getD j []).length = s) := ⟨fun h j hj => by have := h j hj; omega, fun h j hj => by have := h j hj; omega⟩
          have HOK := Lib.hid hok
          clear hok hx p0 p1 p2
          cases ok with
          | true =>
            have HN := Lib.hid (HNX.out (by rw [← HRL.out]; exact H9.out) (HAL.out.1 (HOK.out.1 rfl)))
            go_wp2
            go_roundw
            case rel => exact ⟨q + 1, by omega, by go_num, HX4, HN⟩
            case measure => simp [intOf]; omega
          | false =>
            have HP : Hid (Says Ft w (.returned (.bool false)) w4) := Says.no (fun hf => by have := HOK.out.2 (HAL.out.2 (HNO.out hf).2); cases this) (Gr.ext_trans HX2.out HX4.out)
            go_wp2
            go_ret
            exact HP.out
        · have hne2 : ((r : Int) != k) = true := by simp; omega
          have HP : Hid (Says Ft w (.returned (.bool false)) w3) := Says.no (fun hf => h9 (by rw [HRL.out]; exact (HNO.out hf).1)) (Gr.ext_trans HX2.out HX3.out)
          clear h9
          go_wp2
          go_ret
          exact HP.out
      · obtain rfl : q = ln := by omega
        have HP : Hid (Says Ft w (.returned (.bool true)) wr) := Says.yes (HFIT.out.1 ⟨HLN.out, HQ.out⟩) (Gr.ext_trans HX2.out HX.out)
        go_wp2
        go_ret
        exact HP.out
  · have hne : ((ln : Int) != n) = true := by simp; omega
    have HP : Hid (Says Ft w (.returned (.bool false)) w2) := Says.no (fun hf => h7 (HFIT.out.2 hf).1) HX2.out
    clear h7
    go_wp2
    go_ret
    exact HP.out
end Go.Proofs.YtpfmmfapdcbnkaaGreatDoor
namespace Go.Proofs.YtpfmmfapdcbnkaaGreatDoor
set_option maxRecDepth 20000
open Go.RowKit Go.Deep
set_option linter.unusedVariables false
/-- What Join answers. -/
def JoinOut (w : World) (er : Nat) (xs : List Nat) (e : Ending) (w' : World) : Prop := ∃ v, e = .returned (.tuple #[v, .int .i64 (er : Nat)]) ∧ w.Extends w' ∧ U8s w' v xs
/-- The row of b bytes in which F is laid from its beginning on. -/
def jrow (b : Nat) (F : List Nat) : List Value := u8vs (F.take b) ++ List.replicate (b - F.length) (.int .u8 0)
theorem jrow_length (b : Nat) (F : List Nat) : (jrow b F).length = b := by unfold jrow; rw [List.length_append, u8vs_length, List.length_take, List.length_replicate]; omega
theorem u8vs_app (xs ys : List Nat) : u8vs (xs ++ ys) = u8vs xs ++ u8vs ys := by simp [u8vs]
theorem jrow_nil (b : Nat) : jrow b [] = List.replicate b (.int .u8 0) := by simp [jrow, u8vs]
theorem jrow_next (b : Nat) (F row : List Nat) : splice (jrow b F) (min F.length b) (u8vs (row.take (b - min F.length b))) = jrow b (F ++ row) := by
  by_cases h : b ≤ F.length
  · rw [Nat.min_eq_right h, Nat.sub_self, List.take_zero]
    have e : jrow b (F ++ row) = jrow b F := by
      unfold jrow
      rw [List.take_append_of_le_length h, List.length_append, show b - (F.length + row.length) = b - F.length by omega]
    rw [e]
    simp [splice, u8vs]
  · rw [Nat.min_eq_left (by omega)]
    unfold splice jrow
    rw [List.take_of_length_le (l := F) (by omega), u8vs_length, List.length_take]
    have e1 : (u8vs F ++ List.replicate (b - F.length) (Value.int .u8 0)).take F.length = u8vs F := by
      rw [List.take_append_of_le_length (by rw [u8vs_length]; exact Nat.le_refl _), List.take_of_length_le (by rw [u8vs_length]; exact Nat.le_refl _)]
    have e2 : (u8vs F ++ List.replicate (b - F.length) (Value.int .u8 0)).drop (F.length + min (b - F.length) row.length) = List.replicate (b - (F ++ row).length) (.int .u8 0) := by
      rw [List.drop_append, List.drop_eq_nil_of_le (by rw [u8vs_length]; omega), List.nil_append, u8vs_length, List.drop_replicate, List.length_append]
      congr 1; omega
    have e3 : (F ++ row).take b = F ++ row.take (b - F.length) := by rw [List.take_append, List.take_of_length_le (l := F) (by omega)]
    rw [e1, e2, e3, u8vs_app, List.append_assoc]
theorem at_next (b f r : Nat) : min f b + (min r (b - min f b)) = min (f + r) b := by omega
theorem jrow_own {w : World} {g b : Nat} {F : List Nat} (h : w.heap[g]? = some (.cells (jrow b F).toArray 5 (0, 0))) (hb : b ≤ maxLen) (hf : b ≤ F.length) (hl : ∀ x ∈ F, x < 256) : U8s w (.slice (some ⟨g, 0, none⟩) b b) (F.take b) := by
  have hlen : (F.take b).length = b := by rw [List.length_take]; omega
  have ho : Own w g 5 (F.take b) := by
    refine ⟨⟨_, h, ?_, fun i hi => ?_⟩, by omega, fun x hx => hl x (List.mem_of_mem_take hx)⟩
    · rw [List.size_toArray, jrow_length, hlen]
    · rw [List.getElem?_toArray]
      unfold jrow
      rw [List.getElem?_append_left (by rw [u8vs_length]; exact hi)]
      have hi' : i < F.length := by omega
      have hi2 : i < b := by omega
      simp [u8vs, hi', hi2]
  have := ho.u8s
  rwa [hlen] at this
theorem made_row (w : World) (b : Nat) : (w.alloc (.cells (madeCells #[.int .u8 0] b) 5)).heap[w.heap.size]? = some (.cells (jrow b []).toArray 5 (0, 0)) := by rw [jrow_nil]; exact made_bytes w b
theorem RwsL.all_lt {w : World} {v : Value} {L : List (List (List Nat))} (h : RwsL w v L) : ∀ x ∈ CM.flat L, x < 256 := by
  intro x hx
  obtain ⟨r, hr, hxr⟩ := List.mem_flatten.1 hx
  obtain ⟨l, hl, hrl⟩ := List.mem_flatten.1 hr
  rcases h with ⟨rfl, _⟩ | ⟨b, off, cap, rfl, _, _, _, h4⟩
  · cases hl
  · obtain ⟨k, hk, rfl⟩ := List.mem_iff_getElem.1 hl
    obtain ⟨u, _, hs⟩ := h4 k hk
    rw [show L.getD k [] = L[k] by simp [hk]] at hs
    exact hs.all_lt r hrl x hxr
theorem flat_take (l : List (List Nat)) (z : Nat) (hz : z < l.length) : (l.take (z + 1)).flatten = (l.take z).flatten ++ l.getD z [] := by
  rw [List.take_succ_eq_append_getElem hz, CM.flatten_snoc]; simp [hz]
set_option maxHeartbeats 1000000 in
set_option maxRecDepth 100000 in
theorem join_any (b s m : Nat) (v : Value) (L : List (List (List Nat))) (w : World) (h : CM.Right b s m) (hv : RwsL w v L) :
    Calls Tryz.prog 42 #[PV b s m, v] w fun e w' => (CM.Fit b s m L → JoinOut w 0 ((CM.flat L).take b) e w') ∧ (¬ CM.Fit b s m L → JoinOut w 10 [] e w') := by
  have hm := hv.len
  have HLT := Lib.hid hv.all_lt
  have HF := Lib.hid (fun v w hv => fit_any b s m v L w h hv)
  have HU := Lib.hid hv
  obtain ⟨va, vc, rfl, _⟩ := hv.slice
  have HV := Lib.hid hv.at.2
  obtain ⟨h1, h2, h3, h4, h5, h6⟩ := CM.right_of h
  have HFL : Hid (CM.Fit b s m L → b ≤ (CM.flat L).length) := fun hf => by rw [CM.flat_all b s m L hf]; exact CM.sy_hi b s h3
  have HFR : Hid (CM.Fit b s m L → ∀ q, q < L.length → (L.getD q []).length ≤ 40 ∧ ∀ j, j < (L.getD q []).length → ((L.getD q []).getD j []).length = s) := fun hf q hq => ⟨by rw [(hf.2 q hq).1]; exact Nat.le_trans (CM.kk_le b s m q h5) h6, (hf.2 q hq).2⟩
  have HFN : Hid (CM.Fit b s m L → L.length ≤ 4000) := fun hf => by rw [hf.1]; have := CM.bl_le b s m; have := CM.sy_le b s h1; omega
  have HT0 : Hid (CM.flat (L.take 0) = []) := by show _ = _; rw [List.take_zero]; rfl
  have HTS : Hid (∀ q, q < L.length → CM.flat (L.take (q + 1)) = CM.flat (L.take q) ++ (L.getD q []).flatten) := fun q hq => by
    rw [List.take_succ_eq_append_getElem hq, CM.flat_snoc]; simp [hq]
  have HTE : Hid (CM.flat (L.take L.length) = CM.flat L) := by show _ = _; rw [List.take_length]
  have hmk := fun w => mkBytes b (by omega) w
  have HMK := Lib.hid hmk
  clear hmk
  unfold maxLen at hm
  clear hv
  generalize CM.Fit b s m L = Ft at *
  generalize CM.flat L = FL at *
  obtain ⟨ln, hln⟩ : ∃ ln, ln = L.length := ⟨_, rfl⟩
  rw [← hln] at HV HFN HFR HTS HTE HU hm ⊢
  have HR := Lib.hid h
  clear hln h
  go_enter Tryz.func42, Tryz.ntmps42
  go_wp2_with fail
  generalize hw1 : World.alloc w _ = w1
  have hx1 : w.Extends w1 := by subst hw1; exact prm_ext_alloc _ _
  have hp : PAt w1 w.heap.size b s m := by subst hw1; exact PAt.new w 25 b s m
  generalize w.heap.size = bx at hp ⊢
  clear hw1
  have HX1 := Lib.hid hx1
  have HP1 := Lib.hid hp
  have hb1 := hp.lt
  obtain ⟨p0, p1, p2⟩ := hp
  clear hx1
  refine (right_yes b s m w1 HR.out).mono ?_
  rintro e w2 ⟨rfl, hx⟩
  have HX2 := Lib.hid (Gr.ext_trans HX1.out hx)
  have HP2 := Lib.hid (HP1.out.ext hx)
  have hb2 := HP2.out.lt
  clear p0 p1 p2 hx
  obtain ⟨p0, p1, p2⟩ := HP2.out
  go_wp2_with fail
  refine (HF.out _ w2 (HU.out.ext HX2.out)).mono ?_
  rintro e w3 ⟨⟨ok, rfl, hok⟩, hx⟩
  have HX3 := Lib.hid (Gr.ext_trans HX2.out hx)
  have HP3 := Lib.hid (HP2.out.ext hx)
  have hb3 := HP3.out.lt
  clear p0 p1 p2 hx
  obtain ⟨p0, p1, p2⟩ := HP3.out
  have HOK := Lib.hid hok
  clear hok
  cases ok with
  | false =>
    have HP : Hid (¬ Ft ∧ w.Extends w3) := ⟨fun hf => (by have := HOK.out.2 hf; cases this), HX3.out⟩
    go_wp2
    go_returns
    exact ⟨fun hf => absurd hf HP.out.1, fun _ => ⟨_, by rfl, HP.out.2, nil_u8s _ _ _⟩⟩
  | true =>
    have HFt : Hid Ft := HOK.out.1 rfl
    clear HOK
    have hlnl := HFN.out HFt.out
    have hmk := HMK.out
    go_upto_region 6 with fail
    clear hmk p0 p1 p2
    have HB4 : Hid (Below w3.heap.size w3 (w3.alloc (.cells (madeCells #[.int .u8 0] b) 5))) := (Below.refl _ _).alloc (Nat.le_refl _) _
    have HG4 := Lib.hid (made_row w3 b)
    generalize hw4 : World.alloc w3 _ = w4 at *
    obtain ⟨g, hg⟩ : ∃ g, g = w3.heap.size := ⟨_, rfl⟩
    rw [← hg] at HB4 HG4 ⊢
    have HGE := Lib.hid hg
    clear hg hw4
    go_wp2_with fail
    go_loopw [7, 24] (fun at' i wr => ∃ q : Nat, q ≤ ln ∧ i = .int .i64 q ∧ at' = .int .i64 (min (CM.flat (L.take q)).length b : Nat) ∧ Hid (Below g w3 wr) ∧ Hid (wr.heap[g]? = some (.cells (jrow b (CM.flat (L.take q))).toArray 5 (0, 0)))) (fun _ i _ => (ln - intOf i).toNat)
    case atStart => exact ⟨0, by omega, rfl, by rw [HT0.out]; simp, HB4, by rw [HT0.out]; exact HG4⟩
    case round =>
      obtain ⟨q, hq, rfl, rfl, HB, HG⟩ := hrel
      by_cases h8 : q < ln
      · obtain ⟨bb, o1, rfl, hbb, hc1⟩ := HV.out (by omega)
        obtain ⟨ra, rc, hc3, hr0⟩ := hc1 q h8
        have HXW : Hid (w.Extends wr) := Gr.ext_trans HX3.out (Gr.ext_of (by rw [← HGE.out]; exact HB.out))
        have hc2 := HXW.out.cell_of hc3
        have HR0 := Lib.hid hr0
        have HVR := Lib.hid hr0.at.2
        obtain ⟨hll, hls⟩ := HFR.out HFt.out q h8
        have HLS := Lib.hid hls
        have HTQ := Lib.hid (HTS.out q h8)
        have HFZ0 : Hid ((L.getD q []).take 0 = []) := by show _ = _; rw [List.take_zero]
        have HFZS : Hid (∀ z, z < (L.getD q []).length → ((L.getD q []).take (z + 1)).flatten = ((L.getD q []).take z).flatten ++ (L.getD q []).getD z []) := flat_take (L.getD q [])
        have HFZE : Hid ((L.getD q []).take (L.getD q []).length = L.getD q []) := by show _ = _; rw [List.take_length]
        clear hc1 hc3 hr0 hls
        generalize L.getD q [] = l at *
        generalize CM.flat (L.take q) = F at *
        obtain ⟨k, hk⟩ : ∃ k, k = l.length := ⟨_, rfl⟩
        rw [← hk] at hc2 hll HR0 HVR HLS HFZS HFZE
        clear hk
        obtain ⟨wo, hwo⟩ : ∃ wo, wo = wr := ⟨_, rfl⟩
        have HBo := HB
        rw [← hwo] at HBo hc2 ⊢
        have HGo := HG
        rw [← hwo] at HGo
        clear HB HG HXW hwo
        go_wp2_with fail
        go_loopw [7, 30] (fun at' i wr => ∃ z : Nat, z ≤ k ∧ i = .int .i64 z ∧ at' = .int .i64 (min (F ++ (l.take z).flatten).length b : Nat) ∧ Hid (Below g w3 wr) ∧ Hid (wr.heap[g]? = some (.cells (jrow b (F ++ (l.take z).flatten)).toArray 5 (0, 0)))) (fun _ i _ => (k - intOf i).toNat)
        case atStart => exact ⟨0, by omega, rfl, by rw [HFZ0.out]; simp, HBo, by rw [HFZ0.out]; simpa using HGo⟩
        case round =>
          obtain ⟨z, hz, rfl, rfl, HB, HG⟩ := hrel
          by_cases h9 : z < k
          · obtain ⟨bc, o2, rfl, hbc, hd1⟩ := HVR.out (by omega)
            obtain ⟨rb, rd, hd3, hu0⟩ := hd1 z h9
            have HXW : Hid (w.Extends wr) := Gr.ext_trans HX3.out (Gr.ext_of (by rw [← HGE.out]; exact HB.out))
            have hd2 := HXW.out.cell_of hd3
            have HU0 := Lib.hid (hu0.ext HXW.out)
            have HRS := Lib.hid (HLS.out z h9)
            have HFS := Lib.hid (HFZS.out z h9)
            have hrl := hu0.len
            unfold maxLen at hrl
            clear hd1 hd3 hu0 HXW
            generalize l.getD z [] = row at *
            generalize (l.take z).flatten = Fz at *
            have HJN := Lib.hid (jrow_next b (F ++ Fz) row)
            have HAN := Lib.hid (at_next b (F ++ Fz).length row.length)
            have hab : min (F ++ Fz).length b ≤ b := Nat.min_le_right _ _
            have HJL := Lib.hid (jrow_length b (F ++ Fz))
            have HAP := Lib.hid (List.append_assoc F Fz row)
            have HLA : Hid (((F ++ Fz) ++ row).length = (F ++ Fz).length + row.length) := List.length_append
            have HCS := Lib.hid (copy_src HU0.out (b - min (F ++ Fz).length b))
            have HONE := Lib.hid (u8vs_one (row.take (b - min (F ++ Fz).length b)))
            have HCL : Hid ((u8vs (row.take (b - min (F ++ Fz).length b))).length = min row.length (b - min (F ++ Fz).length b)) := by show _ = _; rw [u8vs_length, List.length_take, Nat.min_comm]
            generalize u8vs (row.take (b - min (F ++ Fz).length b)) = cs at *
            generalize F ++ Fz = FF at *
            generalize FF.length = fl at *
            generalize row.length = rl at *
            obtain ⟨p, hp0⟩ : ∃ p, p = min fl b := ⟨_, rfl⟩
            have HPE := Lib.hid hp0
            rw [← hp0] at hab HCL HJN HAN ⊢
            clear hp0
            obtain ⟨cn, hcn⟩ : ∃ cn, cn = cs.length := ⟨_, rfl⟩
            have HCN := Lib.hid hcn
            have HCL2 : Hid (cn = min rl (b - p)) := by show _ = _; rw [hcn]; exact HCL.out
            clear hcn HCL
            go_wp2_with (with_reducible refine wpList_copy_splice rfl (.tmp 37) (.tmp 38) 30 99 rfl 5 Tryz.underlying30 bytesize _ _ _ _ _ _ rfl rfl g p (jrow b FF) 5 HG.out cs ?_ ?_ ?_ HONE.out g w3 HB.out (Nat.le_refl _) ?_)
            case refine_1 => rw [← HCN.out, HCL2.out]; try rfl
            case refine_2.inl => exact List.eq_nil_of_length_eq_zero (by rw [← HCN.out, HCL2.out]; try omega)
            case refine_2.inr => exact HCS.out
            case refine_3 => rw [HJL.out, ← HCN.out, HCL2.out]; omega
            case refine_4.inl =>
              obtain rfl : b = p := by assumption
              intro w2 HG2 hB2
              rw [← HCN.out]
              have hpc : b + cn ≤ b := by have := HCL2.out; omega
              have HP : Hid (Below g w3 w2 ∧ w2.heap[g]? = some (.cells (jrow b (F ++ (l.take (z + 1)).flatten)).toArray 5 (0, 0)) ∧ b + cn = min (F ++ (l.take (z + 1)).flatten).length b) := by
                rw [HFS.out, ← HAP.out, ← HJN.out, HLA.out, ← HAN.out, HCL2.out]
                exact ⟨hB2, HG2.out, rfl⟩
              clear HG2 hB2
              go_wp2
              go_roundw
              case rel => exact ⟨z + 1, by omega, by go_num, by rw [← HP.out.2.2]; go_num, Lib.hid HP.out.1, Lib.hid HP.out.2.1⟩
              case measure => simp [intOf]; omega
            case refine_4.inr =>
              intro w2 HG2 hB2
              rw [← HCN.out]
              have hpc : p + cn ≤ b := by have := HCL2.out; omega
              have HP : Hid (Below g w3 w2 ∧ w2.heap[g]? = some (.cells (jrow b (F ++ (l.take (z + 1)).flatten)).toArray 5 (0, 0)) ∧ p + cn = min (F ++ (l.take (z + 1)).flatten).length b) := by
                rw [HFS.out, ← HAP.out, ← HJN.out, HLA.out, ← HAN.out, HCL2.out]
                exact ⟨hB2, HG2.out, rfl⟩
              clear HG2 hB2
              go_wp2
              go_roundw
              case rel => exact ⟨z + 1, by omega, by go_num, by rw [← HP.out.2.2]; go_num, Lib.hid HP.out.1, Lib.hid HP.out.2.1⟩
              case measure => simp [intOf]; omega
          · obtain rfl : z = k := by omega
            have HP : Hid (wr.heap[g]? = some (.cells (jrow b (CM.flat (L.take (q + 1)))).toArray 5 (0, 0)) ∧ CM.flat (L.take (q + 1)) = F ++ (l.take z).flatten) := by
              have e : CM.flat (L.take (q + 1)) = F ++ (l.take z).flatten := by rw [HTQ.out, HFZE.out]
              exact ⟨by rw [e]; exact HG.out, e⟩
            clear HG
            go_wp2
            go_roundw
            case rel => exact ⟨q + 1, by omega, by go_num, by rw [HP.out.2], HB, Lib.hid HP.out.1⟩
            case measure => simp [intOf]; omega
      · obtain rfl : q = ln := by omega
        have HXW : Hid (w.Extends wr) := Gr.ext_trans HX3.out (Gr.ext_of (by rw [← HGE.out]; exact HB.out))
        have HRW : Hid (U8s wr (.slice (some ⟨g, 0, none⟩) b b) (FL.take b)) := by
          have hg := HG.out
          rw [HTE.out] at hg
          exact jrow_own hg (by unfold maxLen; omega) (HFL.out HFt.out) HLT.out
        clear HB HG
        go_wp2
        go_returns
        exact ⟨fun _ => ⟨_, by rfl, HXW.out, HRW.out⟩, fun hf => absurd HFt.out hf⟩
end Go.Proofs.YtpfmmfapdcbnkaaGreatDoor
namespace Go.Proofs.YtpfmmfapdcbnkaaGreatDoor
set_option maxRecDepth 20000
open Go.RowKit Go.Deep
set_option linter.unusedVariables false
/-- A slice of the call's own of these ints. -/
def OwnInts (w : World) (l : List Int) (e : Ending) (w' : World) : Prop := ∃ v, e = .returned v ∧ w.Extends w' ∧ Ints w' v l
/-- Block g holds n ints, the first k of them their own places. -/
def Upto (w : World) (g n k : Nat) : Prop := w.rowIs g 3 n (fun i => .int .i64 (if i < k then (i : Nat) else 0 : Nat))
theorem Upto.made (w : World) (n : Nat) : Upto (w.alloc (.cells (madeCells #[.int .i64 0] n) 3)) w.heap.size n 0 :=
  (World.rowIs_made w (.int .i64 0) n 3).congr fun i hi => by simp
theorem Upto.set {w : World} {g n k : Nat} (h : Upto w g n k) : Upto (w.setCell ⟨g, k, none⟩ (.int .i64 (k : Nat))) g n (k + 1) :=
  (World.rowIs.set h k (.int .i64 (k : Nat))).congr fun i hi => by
    by_cases e : i = k
    · subst e; simp
    · by_cases e2 : i < k
      · simp [e, e2, show i < k + 1 by omega]
      · simp [e, e2, show ¬ i < k + 1 by omega]
theorem Upto.ints {w : World} {g n : Nat} (h : Upto w g n n) (hn : n ≤ 1000) : Ints w (.slice (some ⟨g, 0, none⟩) n n) (SM.iota n) := by
  refine .inr ⟨g, 0, n, by rw [SM.iota_length], by rw [SM.iota_length]; exact Nat.le_refl _, by unfold maxLen; omega, h.lt, fun k hk => ?_⟩
  rw [SM.iota_length] at hk
  rw [SM.iota_at n k hk, Nat.zero_add, h.cell hk, if_pos hk]
theorem firstEsis_any (n : Nat) (w : World) (hn : n ≤ 1000) :
    Calls Tryz.prog 69 #[.int .i64 n] w (OwnInts w (SM.iota n)) := by
  obtain ⟨i0, hi, hz0, hz1, hz2⟩ := info_parts intinfo
  have HI := Lib.hid hi; clear hi
  have HZ0 := Lib.hid hz0; clear hz0
  have HZ1 := Lib.hid hz1; clear hz1
  have HZ2 := Lib.hid hz2; clear hz2
  go_enter Tryz.func69, Tryz.ntmps69
  go_wp2_with fail
  go_loopw [3, 6] (fun v i wr => ∃ k : Nat, k ≤ n ∧ i = .int .i64 k ∧ Hid (w.Extends wr) ∧ Hid (wr.ownsRow w.heap.size 3 1 v k (i64vs (SM.iota k)))) (fun _ i _ => (n - intOf i).toNat)
  case atStart => exact ⟨0, by omega, rfl, Lib.hid (Gr.ext_refl _), Lib.hid (World.ownsRow_nil _ _ _ _)⟩
  case round =>
    obtain ⟨k, hk, rfl, HX, HOWN⟩ := hrel
    by_cases h1 : k < n
    · have HOB : Hid (∀ g, u3.ownBlock = some g → w.heap.size ≤ g) := fun g hg => (HOWN.out.lt g hg).1
      have hbs := HX.out.size
      have HSN : Hid (i64vs (SM.iota k) ++ [.int .i64 (k : Nat)] = i64vs (SM.iota (k + 1))) := by show _ = _; rw [← SM.iota_snoc, i64vs_snoc]
      go_wp2_with (at_builtin; refine wpList_append_own_src _ rfl _ _ 42 42 rfl w.heap.size 3 i0 (.int .i64 0) 1 8 Tryz.underlying42 HI.out HZ0.out HZ1.out HZ2.out rfl _ _ _ rfl (HOWN.out.alloc _) _ 1 [.int .i64 k] rfl (src_one Tryz.underlying42 _ _ rfl rfl) (by unfold maxLen; omega) (by omega) (by simp; omega) ?_)
      intro v' w3 ho3 hg3 _
      have HP1 : Hid (w.Extends w3) := Gr.ext_of (((Gr.below_of HX.out).alloc hbs _).grown hg3 (by simp; omega) HOB.out)
      rw [HSN.out] at ho3
      have HP2 := Lib.hid ho3
      clear ho3 hg3
      go_wp2
      go_roundw
      case rel => exact ⟨k + 1, by omega, by go_num, HP1, HP2⟩
      case measure => simp [intOf]; omega
    · obtain rfl : k = n := by omega
      have HP : Hid (OwnInts w (SM.iota k) (.returned u3) wr) := ⟨_, rfl, HX.out, owns_ints HOWN.out⟩
      go_wp2
      go_ret
      exact HP.out
theorem refFirst_any (n : Nat) (w : World) (hn : n ≤ 1000) :
    Calls Tryz.prog 52 #[.int .i64 n] w (OwnInts w (SM.iota n)) := by
  obtain ⟨i0, hi, hz0, hz1, hz2⟩ := info_parts intinfo
  have HI := Lib.hid hi; clear hi
  have HZ0 := Lib.hid hz0; clear hz0
  have HZ1 := Lib.hid hz1; clear hz1
  have HZ2 := Lib.hid hz2; clear hz2
  go_enter Tryz.func52, Tryz.ntmps52
  go_wp2_with fail
  go_loopw [3, 4] (fun v i wr => ∃ k : Nat, k ≤ n ∧ i = .int .i64 k ∧ Hid (w.Extends wr) ∧ Hid (wr.ownsRow w.heap.size 3 1 v k (i64vs (SM.iota k)))) (fun _ i _ => (n - intOf i).toNat)
  case atStart => exact ⟨0, by omega, rfl, Lib.hid (Gr.ext_refl _), Lib.hid (World.ownsRow_nil _ _ _ _)⟩
  case round =>
    obtain ⟨k, hk, rfl, HX, HOWN⟩ := hrel
    by_cases h1 : k < n
    · have HOB : Hid (∀ g, u3.ownBlock = some g → w.heap.size ≤ g) := fun g hg => (HOWN.out.lt g hg).1
      have hbs := HX.out.size
      have HSN : Hid (i64vs (SM.iota k) ++ [.int .i64 (k : Nat)] = i64vs (SM.iota (k + 1))) := by show _ = _; rw [← SM.iota_snoc, i64vs_snoc]
      go_wp2_with (at_builtin; refine wpList_append_own_src _ rfl _ _ 42 42 rfl w.heap.size 3 i0 (.int .i64 0) 1 8 Tryz.underlying42 HI.out HZ0.out HZ1.out HZ2.out rfl _ _ _ rfl (HOWN.out.alloc _) _ 1 [.int .i64 k] rfl (src_one Tryz.underlying42 _ _ rfl rfl) (by unfold maxLen; omega) (by omega) (by simp; omega) ?_)
      intro v' w3 ho3 hg3 _
      have HP1 : Hid (w.Extends w3) := Gr.ext_of (((Gr.below_of HX.out).alloc hbs _).grown hg3 (by simp; omega) HOB.out)
      rw [HSN.out] at ho3
      have HP2 := Lib.hid ho3
      clear ho3 hg3
      go_wp2
      go_roundw
      case rel => exact ⟨k + 1, by omega, by go_num, HP1, HP2⟩
      case measure => simp [intOf]; omega
    · obtain rfl : k = n := by omega
      have HP : Hid (OwnInts w (SM.iota k) (.returned u3) wr) := ⟨_, rfl, HX.out, owns_ints HOWN.out⟩
      go_wp2
      go_ret
      exact HP.out
end Go.Proofs.YtpfmmfapdcbnkaaGreatDoor
namespace Go.Proofs.YtpfmmfapdcbnkaaGreatDoor
set_option maxRecDepth 20000
open Go.RowKit Go.ChangeShapes Go.WideShapes
theorem i64_bounds {a : Int} (h : (Lit.int .i64 a).wf = true) : -9223372036854775808 ≤ a ∧ a ≤ 9223372036854775807 := by
  simp [Lit.wf, IntKind.min, IntKind.max, IntKind.signed, IntKind.bits] at h
  omega
theorem gN : Tryz.prog.globalNamed "fountain/random.degreeBounds" = some 0 := by kernel_rfl
theorem gNType : (Tryz.prog.globals[0]?).map (·.type) = some 179 := by kernel_rfl
theorem of_laid {W : World} (h : laidMetH Tryz.prog [("fountain/random.degreeBounds", Rows.laid_fountain_random_degreeBounds)] W) : Tab W := by
  rw [MakeChecks.laidMetH_plain _ _ _ (by kernel_rfl)] at h
  have hT : Lib.TabIs Tryz.prog W "fountain/random.degreeBounds" .i64 RM.bounds :=
    Lib.tabIs_of_head (rest := []) gN gNType Tryz.underlying179 Tryz.underlying3 (by kernel_rfl) (by kernel_rfl) h
  exact fun i hi => hT.cell gN i hi
end Go.Proofs.YtpfmmfapdcbnkaaGreatDoor
namespace Go.Proofs.YtpfmmfapdcbnkaaGreatDoor
set_option maxRecDepth 20000
open Go.RowKit Go.Deep
set_option linter.unusedVariables false
/-- The answer tells whether j is good. -/
def GoodOut (w : World) (k j : Nat) (e : Ending) (w' : World) : Prop := (∃ b : Bool, e = .returned (.bool b) ∧ (b = true ↔ SM.Good k j)) ∧ w.Extends w'
theorem wid_l (k : Nat) (h : k ≤ 40) : wid (PM.l k : Int) = PM.l k := by have := PM.l_le k h; unfold wid; omega
theorem mats_rows {w : World} {B : Nat} {T : TypeId} {v : Value} {l : List (List Nat)} (h : Mats w B 0 T v l.length l) : Rws w v l := Mats.rws h rfl
theorem eq_good {k j r : Nat} (h : LA.RankIs (PM.l k) (· < (SM.rows k j).length) (rowsF (PM.l k) 0 (SM.rows k j) []) r) : ((r : Int) == (PM.l k : Int)) = true ↔ SM.Good k j := by
  rw [beq_iff_eq, ← SM.good_iff h]; omega
theorem settled_any (k j : Nat) (v : Value) (w : World) (h1 : 1 ≤ k) (h2 : k ≤ 40) (hv : Rws w v (SM.rows k j)) :
    Calls Tryz.prog 83 #[PV k (PM.s k) 2, v] w (GoodOut w k j) := by
  have hs7 := PM.s_le k h2
  have HL := Lib.hid (fun w => prmL_any k (PM.s k) 2 w (by omega) (by omega))
  have hlk : (k : Int) + (PM.s k : Int) + 2 = (PM.l k : Int) := by unfold PM.l PM.w; omega
  simp only [hlk] at HL
  have HR : Hid (∀ w, Rws w v (SM.rows k j) → Calls Tryz.prog 91 #[.int .i64 (PM.l k), v] w (RankOut w (PM.l k) (· < (SM.rows k j).length) (rowsF (PM.l k) 0 (SM.rows k j) []))) := fun w hv => by
    have := rank_any (PM.l k) v (SM.rows k j) w hv
    rwa [wid_l k h2] at this
  have HE : Hid (∀ r : Nat, LA.RankIs (PM.l k) (· < (SM.rows k j).length) (rowsF (PM.l k) 0 (SM.rows k j) []) r → (((r : Int) == (PM.l k : Int)) = true ↔ SM.Good k j)) := fun r h => eq_good h
  have hl49 := PM.l_le k h2
  have HV := Lib.hid hv
  obtain ⟨a, cap, rfl, _⟩ := hv.slice
  clear hv hlk hs7
  generalize hF : rowsF (PM.l k) 0 (SM.rows k j) [] = F at *
  clear hF
  generalize SM.rows k j = rs at *
  generalize PM.l k = L at *
  generalize PM.s k = S at *
  go_enter Tryz.func83, Tryz.ntmps83
  go_wp2_with fail
  generalize hw1 : World.alloc w _ = w1
  have hx1 : w.Extends w1 := by subst hw1; exact prm_ext_alloc _ _
  have hp : PAt w1 w.heap.size k S 2 := by subst hw1; exact PAt.new w 118 k S 2
  obtain ⟨b, hb⟩ : ∃ b, b = w.heap.size := ⟨_, rfl⟩
  rw [← hb] at hp ⊢
  clear hw1 hb
  have HX1 := Lib.hid (Gr.ext_drew hx1)
  have HP1 := Lib.hid (hp.ext (Gr.ext_drew (Gr.ext_refl w1)))
  clear hx1 hp
  refine Gr.region 7 [(false,0),(false,2),(false,4),(true,1),(true,3),(true,5),(false,6)] (by kernel_rfl) (by kernel_rfl) (fun d _ _ _ _ h => by cases d <;> exact h) ?_
  simp only [Gr.pick, List.getElem?_cons_zero, List.getElem?_cons_succ, List.drop_succ_cons, List.drop_zero]
  generalize w1.drew = w2 at *
  iterate 3
    refine Gr.walk_t ?_ (Or.inl ⟨by rfl, ?_⟩) ?_
    rotate_left
    · intro w' hw'
      obtain ⟨p0, p1, p2⟩ := HP1.out.ext hw'
      clear hw'
      go_simp
      try with_reducible rfl
    simp only [Act.put, List.setIfInBounds_toArray, List.set_cons_zero, List.set_cons_succ]
  refine Gr.walk_c (fun K hK => ?_)
  go_simp
  refine (HL.out w2).mono ?_
  rintro e w3 ⟨rfl, hx3⟩
  have HX3 := Lib.hid (Gr.ext_trans HX1.out hx3)
  try go_simp
  refine hK.out _ _ (hx3) ?_
  clear hK K
  clear hx3 HX1
  refine Gr.walk_c (fun K hK => ?_)
  go_simp
  refine (HR.out w3 (HV.out.ext HX3.out)).mono ?_
  rintro e w4 ⟨r, rfl, hr, hb4⟩
  have hx4 := Gr.ext_of hb4
  have HX4 := Lib.hid (Gr.ext_trans HX3.out hx4)
  have HEQ := Lib.hid (HE.out r hr)
  try go_simp
  refine hK.out _ _ (hx4) ?_
  clear hK K
  clear hx4 hb4 hr HX3
  refine Gr.walk_c (fun K hK => ?_)
  go_simp
  refine (HL.out w4).mono ?_
  rintro e w5 ⟨rfl, hx5⟩
  have HX5 := Lib.hid (Gr.ext_trans HX4.out hx5)
  try go_simp
  refine hK.out _ _ (hx5) ?_
  clear hK K
  clear hx5 HX4
  refine Gr.walk_t ?_ (Or.inl ⟨by rfl, ?_⟩) ?_
  rotate_left
  · intro w' hw'
    clear hw'
    go_simp
    try with_reducible rfl
  simp only [Act.put, List.setIfInBounds_toArray, List.set_cons_zero, List.set_cons_succ]
  refine Gr.walk_nil ?_
  go_wp2
  go_ret
  exact ⟨⟨_, rfl, HEQ.out⟩, HX5.out⟩
/-- The closure: what it captured are the block's numbers and the symbols' numbers. -/
theorem can_any (k j p q : Nat) (v : Value) (w : World) (h1 : 1 ≤ k) (h2 : k ≤ 40) (hj : j ≤ 255) (hp : PAt w p k (PM.s k) 2) (hq : w.cell? ⟨q, 0, none⟩ = some v) (hv : Ints w v (SM.iota k)) (hT : Tab w) :
    Calls Tryz.prog 82 #[.int .i64 j, .pointer (some ⟨p, 0, none⟩), .pointer (some ⟨q, 0, none⟩)] w (GoodOut w k j) := by
  have HM : Hid (∀ w, Ints w v (SM.iota k) → Tab w → Calls Tryz.prog 84 #[PV k (PM.s k) 2, .int .i64 j, v] w (MadeRws w (SM.rows k j))) := fun w hv hT => mat_some k j v (SM.iota k) w h1 h2 hj (SM.iota_ok k (by omega)) (by rw [SM.iota_length]; omega) hv hT
  have HS := Lib.hid (fun u w hu => settled_any k j u w h1 h2 hu)
  have HP := Lib.hid hp
  have HV := Lib.hid hv
  have HTB := Lib.hid hT
  have HQ := Lib.hid hq
  obtain ⟨a, cap, rfl, _⟩ := hv.slice
  clear hp hv hT hq
  generalize (SM.iota k).length = n at *
  generalize SM.rows k j = rs at *
  generalize PM.s k = S at *
  go_enter Tryz.func82, Tryz.ntmps82
  go_wp2_with fail
  have HX0 : Hid (w.Extends w.drew) := Gr.ext_drew (Gr.ext_refl w)
  refine Gr.region 6 [(false,0),(false,1),(false,2),(false,3),(true,4),(true,5)] (by kernel_rfl) (by kernel_rfl) (fun d _ _ _ _ h => by cases d <;> exact h) ?_
  simp only [Gr.pick, List.getElem?_cons_zero, List.getElem?_cons_succ, List.drop_succ_cons, List.drop_zero]
  generalize w.drew = w1 at *
  iterate 2
    refine Gr.walk_t ?_ (Or.inl ⟨by rfl, ?_⟩) ?_
    rotate_left
    · intro w' hw'
      obtain ⟨p0, p1, p2⟩ := HP.out.ext (Gr.ext_trans HX0.out hw')
      clear hw'
      go_simp
      try with_reducible rfl
    simp only [Act.put, List.setIfInBounds_toArray, List.set_cons_zero, List.set_cons_succ]
  iterate 2
    refine Gr.walk_t ?_ (Or.inl ⟨by rfl, ?_⟩) ?_
    rotate_left
    · intro w' hw'
      have hq := (Gr.ext_trans HX0.out hw').cell_of HQ.out
      clear hw'
      go_simp
      try with_reducible rfl
    simp only [Act.put, List.setIfInBounds_toArray, List.set_cons_zero, List.set_cons_succ]
  refine Gr.walk_c (fun K hK => ?_)
  go_simp
  refine (HM.out w1 (HV.out.ext HX0.out) (HTB.out.ext HX0.out)).mono ?_
  rintro e w2 ⟨u, rfl, hx2, hu⟩
  have HX2 := Lib.hid (Gr.ext_trans HX0.out hx2)
  have HU := Lib.hid (mats_rows hu)
  try go_simp
  refine hK.out _ _ (hx2) ?_
  clear hK K
  clear hx2 hu HX0 HM
  refine Gr.walk_c (fun K hK => ?_)
  go_simp
  refine (HS.out u w2 HU.out).mono ?_
  rintro e w3 ⟨⟨b, rfl, hb⟩, hx3⟩
  have HX3 := Lib.hid (Gr.ext_trans HX2.out hx3)
  have HB := Lib.hid hb
  try go_simp
  refine hK.out _ _ (hx3) ?_
  clear hK K
  clear hx3 HX2 hb
  refine Gr.walk_nil ?_
  go_wp2
  go_ret
  exact ⟨⟨_, rfl, HB.out⟩, HX3.out⟩
/-- The least number, as both programs answer it. -/
def SeedOut (w : World) (k : Nat) (e : Ending) (w' : World) : Prop := ∃ r er : Nat, e = .returned (.tuple #[.int .i64 r, .int .i64 er]) ∧ SM.SeedIs k r er ∧ w.Extends w'
theorem least_any (k p q : Nat) (w : World)
    (H : ∀ (j : Nat) w', j ≤ 255 → w.Extends w' → Calls Tryz.prog 82 #[.int .i64 j, .pointer (some ⟨p, 0, none⟩), .pointer (some ⟨q, 0, none⟩)] w' (GoodOut w' k j)) :
    Calls Tryz.prog 81 #[.func (.func 82) #[] #[.pointer (some ⟨p, 0, none⟩), .pointer (some ⟨q, 0, none⟩)]] w (SeedOut w k) := by
  have HH := Lib.hid H
  clear H
  go_enter Tryz.func81, Tryz.ntmps81
  go_wp2_with fail
  go_loopw [5] (fun i wr => ∃ j : Nat, j ≤ 256 ∧ i = .int .i64 j ∧ Hid (w.Extends wr) ∧ Hid (∀ i, i < j → ¬ SM.Good k i)) (fun i _ => (256 - intOf i).toNat)
  case atStart => exact ⟨0, by omega, rfl, Lib.hid (Gr.ext_refl _), Lib.hid (fun i hi => absurd hi (Nat.not_lt_zero _))⟩
  case round =>
    obtain ⟨j, hj, rfl, HX, HN⟩ := hrel
    by_cases h1 : j < 256
    · have HC := Lib.hid (HH.out j wr (by omega) HX.out)
      go_wp2_with fail
      refine HC.out.mono ?_
      rintro e w2 ⟨⟨b, rfl, hb⟩, hx2⟩
      have HX2 := Lib.hid (Gr.ext_trans HX.out hx2)
      have HB := Lib.hid hb
      clear hx2 hb HC
      cases b with
      | true =>
        have HP : Hid (SeedOut w k (.returned (.tuple #[.int .i64 (j : Nat), .int .i64 ((0 : Nat) : Int)])) w2) := ⟨j, 0, rfl, .inl ⟨rfl, h1, HB.out.1 rfl, HN.out⟩, HX2.out⟩
        go_wp2
        go_returns
        exact HP.out
      | false =>
        have HN2 : Hid (∀ i, i < j + 1 → ¬ SM.Good k i) := fun i hi => by
          by_cases e : i = j
          · subst e; exact fun hg => absurd (HB.out.2 hg) (by decide)
          · exact HN.out i (by omega)
        go_wp2
        go_roundw
        case rel => exact ⟨j + 1, by omega, by go_num, HX2, HN2⟩
        case measure => simp [intOf]; omega
    · obtain rfl : j = 256 := by omega
      have HP : Hid (SeedOut w k (.returned (.tuple #[.int .i64 ((0 : Nat) : Int), .int .i64 ((5 : Nat) : Int)])) wr) := ⟨0, 5, rfl, .inr ⟨rfl, rfl, HN.out⟩, HX.out⟩
      go_wp2
      go_returns
      exact HP.out
/-- Find of a block's number. -/
theorem find_some (k : Nat) (w : World) (h1 : 1 ≤ k) (h2 : k ≤ 40) (hT : Tab w) :
    Calls Tryz.prog 65 #[.int .i64 k] w (SeedOut w k) := by
  have HO := Lib.hid (fun w => prmOf_good k w h1 h2)
  have HF := Lib.hid (fun w => firstEsis_any k w (by omega))
  have HC : Hid (∀ (j p q : Nat) v w, j ≤ 255 → PAt w p k (PM.s k) 2 → w.cell? ⟨q, 0, none⟩ = some v → Ints w v (SM.iota k) → Tab w → Calls Tryz.prog 82 #[.int .i64 j, .pointer (some ⟨p, 0, none⟩), .pointer (some ⟨q, 0, none⟩)] w (GoodOut w k j)) := fun j p q v w hj hp hq hv hT => can_any k j p q v w h1 h2 hj hp hq hv hT
  have HTB := Lib.hid hT
  clear hT
  generalize PM.s k = S at *
  go_enter Tryz.func65, Tryz.ntmps65
  go_wp2_with fail
  refine (HO.out w).mono ?_
  rintro e w1 ⟨rfl, hx1⟩
  have HX1 := Lib.hid hx1
  clear hx1 HO
  go_wp2_with fail
  generalize hw2 : World.alloc w1 _ = w2
  have hx2 : w1.Extends w2 := by subst hw2; exact prm_ext_alloc _ _
  have hp : PAt w2 w1.heap.size k S 2 := by subst hw2; exact PAt.new w1 118 k S 2
  generalize w1.heap.size = p at hp ⊢
  clear hw2
  have HX2 := Lib.hid (Gr.ext_trans HX1.out hx2)
  have HP2 := Lib.hid hp
  clear hx2 hp HX1
  refine (HF.out w2).mono ?_
  rintro e w3 ⟨v, rfl, hx3, hv3⟩
  have HX3 := Lib.hid (Gr.ext_trans HX2.out hx3)
  have HP3 := Lib.hid (HP2.out.ext hx3)
  have HV3 := Lib.hid hv3
  obtain ⟨a, cap, rfl, _⟩ := hv3.slice
  clear hx3 hv3 HX2 HP2 HF
  go_wp2_with fail
  generalize hw4 : World.alloc w3 _ = w4
  have hx4 : w3.Extends w4 := by subst hw4; exact ext_alloc _ _
  have hq : w4.cell? ⟨w3.heap.size, 0, none⟩ = some (.slice a (SM.iota k).length cap) := by subst hw4; rw [cell_of_row _ _ _ _ _ _ (heap_alloc_new w3 _)]; rfl
  generalize w3.heap.size = q at hq ⊢
  clear hw4
  have HX4 := Lib.hid (Gr.ext_trans HX3.out hx4)
  have HP4 := Lib.hid (HP3.out.ext hx4)
  have HV4 := Lib.hid (HV3.out.ext hx4)
  have HQ4 := Lib.hid hq
  clear hx4 HX3 HP3 HV3 hq
  refine (least_any k p q w4 (fun j w' hj hx => HC.out j p q _ w' hj (HP4.out.ext hx) (hx.cell_of HQ4.out) (HV4.out.ext hx) (HTB.out.ext (Gr.ext_trans HX4.out hx)))).mono ?_
  rintro e w5 ⟨r, er, rfl, hr, hx5⟩
  have HP : Hid (SeedOut w k (.returned (.tuple #[.int .i64 r, .int .i64 er])) w5) := ⟨r, er, rfl, hr, Gr.ext_trans HX4.out hx5⟩
  clear hr hx5
  go_wp2
  go_returns
  exact HP.out
end Go.Proofs.YtpfmmfapdcbnkaaGreatDoor
