/- In one text: Conv, From, DroDrops, DroLaw, BlkSym. -/
import Derived.Laws.BytesArg
import Derived.Handy
import Derived.Lib.Hide
import Derived.Test.YtbaeieloncmiaaaDoorM1
import Derived.Test.YtbaeieloncmiaaaDoorM2
import Derived.Test.YtbaeieloncmiaaaDoorM3
import Derived.Test.YtbaeieloncmiaaaDoorM7
import Derived.Test.YtbaeieloncmiaaaDoorM8
import Derived.Test.YtbaeieloncmiaaaDoorM9
import Derived.Test.YtbaeieloncmiaaaDoorM10
import Derived.Test.YtbaeieloncmiaaaDoorM12
import Derived.Test.YtbaeieloncmiaaaDoorM13
/- The bytes of a slice as a string: string(b). -/
namespace Go.Proofs.YtbaeieloncmiaaaDoor
set_option maxRecDepth 20000
open Go.RowKit
/-- Bytes as a string. -/
def strOf (xs : List Nat) : ByteArray := strOfNums (xs.map fun (x : Nat) => (x : Int))
theorem conv_none {P : Program} (w : World) (a : Option Addr) (cap : Nat) (src e dst : TypeId) (hs : P.underlying src = some (.slice e)) (he : P.underlying e = some (.int .u8)) (hd : P.underlying dst = some .string) :
    (convert src dst (.slice a 0 cap)).run P w = .ok (.string (strOf [])) w := by
  rw [run_convert_bytes_string w src dst e a 0 cap hs he hd]
  cases a with
  | none => simp [Conv.bytesToString]; rfl
  | some a =>
    rw [run_bytesToString w a 0 cap [] (by simp [loadCells, loadCellsFrom])]
    rfl
theorem conv_any {P : Program} {w : World} {v : Value} {xs : List Nat} (h : U8s w v xs) (src e dst : TypeId) (hs : P.underlying src = some (.slice e)) (he : P.underlying e = some (.int .u8)) (hd : P.underlying dst = some .string) :
    (convert src dst v).run P w = .ok (.string (strOf xs)) w := by
  obtain ⟨a, cap, rfl, _, _⟩ := h.slice
  by_cases h0 : xs.length = 0
  · have : xs = [] := List.eq_nil_of_length_eq_zero h0
    subst this
    exact conv_none w a cap src e dst hs he hd
  · obtain ⟨b, off, rfl, _, hc⟩ := h.cell.2 (by omega)
    refine run_convert_bytes_arg w src e hs he b off xs.length cap (xs.map fun (x : Nat) => (x : Int)) (by simp) (fun i hi => ?_) dst hd
    rw [hc i hi]
    simp [hi]
theorem strOf_inj {xs ys : List Nat} (hx : ∀ x ∈ xs, x < 256) (hy : ∀ y ∈ ys, y < 256) (h : strOf xs = strOf ys) : xs = ys := by
  have h1 : (xs.map fun (x : Nat) => UInt8.ofNat x) = ys.map fun (x : Nat) => UInt8.ofNat x := by
    have := congrArg (fun b : ByteArray => b.data.toList) h
    simpa [strOf, strOfNums, Function.comp_def] using this
  have h2 := congrArg (List.map UInt8.toNat) h1
  rw [List.map_map, List.map_map] at h2
  have e : ∀ l : List Nat, (∀ x ∈ l, x < 256) → l.map (UInt8.toNat ∘ fun (x : Nat) => UInt8.ofNat x) = l := fun l hl => by
    conv => rhs; rw [← List.map_id l]
    refine List.map_congr_left fun x hx => ?_
    simp [Nat.mod_eq_of_lt (hl x hx)]
  rwa [e xs hx, e ys hy] at h2
end Go.Proofs.YtbaeieloncmiaaaDoor
/- The laws' helpers: From (rows as lists of bytes) and the reference's SameRows. -/
namespace Go.Proofs.YtbaeieloncmiaaaDoor
set_option maxRecDepth 20000
open Go.RowKit Go.Deep
set_option linter.unusedVariables false
theorem conv_b {w : World} {v : Value} {xs : List Nat} (h : U8s w v xs) : (convert 45 9 v).run Tryd.prog w = .ok (.string (strOf xs)) w := conv_any h _ _ _ Tryd.underlying45 Tryd.underlying5 Tryd.underlying9
theorem take_snoc (l : List (List Nat)) (k : Nat) (h : k < l.length) : l.take k ++ [l.getD k []] = l.take (k + 1) := by
  rw [List.take_succ_eq_append_getElem h]; simp [h]
/-- Rows of a call's own: new, and they read so. -/
def MadeList (w : World) (l : List (List Nat)) (e : Ending) (w' : World) : Prop := ∃ v, e = .returned v ∧ w.Extends w' ∧ Rws w' v l
end Go.Proofs.YtbaeieloncmiaaaDoor
/- drops.Drops, over whatever Drop answers of each number. -/
namespace Go.Proofs.YtbaeieloncmiaaaDoor
set_option maxRecDepth 20000
open Go.RowKit Go.Deep
set_option linter.unusedVariables false
/-- The answer reads as xs, in a block of bytes. -/
def RowNew (w : World) (xs : List Nat) (e : Ending) (w' : World) : Prop := ∃ v, e = .returned v ∧ w.Extends w' ∧ RowOk w' 0 v xs
theorem new_made {w w' : World} {xs : List Nat} {e : Ending} (h : MadeRow w xs e w') : RowNew w xs e w' := by
  obtain ⟨g, rfl, hx, _, ho⟩ := h
  exact ⟨_, rfl, hx, RowOk.own ho 0 rfl rfl⟩
theorem new_nil {w w' : World} {e : Ending} (h : e = .returned (.slice none 0 0)) (hx : w.Extends w') : RowNew w [] e w' := ⟨_, h, hx, nil_u8s _ _ _, .inl rfl⟩
end Go.Proofs.YtbaeieloncmiaaaDoor
/- What both programs answer of any numbers and rows. -/
namespace Go.Proofs.YtbaeieloncmiaaaDoor
set_option maxRecDepth 20000
open Go.RowKit Go.Deep
set_option linter.unusedVariables false
theorem not_right_zero8 : ¬ Right 0 0 0 := fun ⟨n, h, h1, _⟩ => by omega
/-- With Params of no block. -/
theorem drop_zero (j size esi : Int) (v : Value) (c : List (List Nat)) (w : World) (hv : Rws w v c) :
    Calls Tryd.prog 44 #[PV 0 0 0, .int .i64 j, .int .i64 size, v, .int .i64 esi] w (RowNew w []) := by
  have hm := hv.len
  obtain ⟨a, cap, rfl, _⟩ := hv.slice
  by_cases h1 : size < 1 ∨ 64 < size
  · exact (drop_size 0 0 0 j size esi _ w h1).mono fun _ _ h => new_nil h.1 h.2
  · by_cases h2 : c.length = 0
    · exact (drop_fit 0 0 0 j size esi a c.length cap w (by omega) (by omega) (by omega) (by omega) hm (fun h => not_right_zero8 h.1)).mono fun _ _ h => new_nil h.1 h.2
    · exact (drop_len 0 0 0 j size esi a c.length cap w (by omega) (by omega) (by omega) (by omega) (by omega)).mono fun _ _ h => new_nil h.1 h.2
/-- Numbers of which a block of k has a symbol. -/
def Has (k : Nat) (j size esi : Int) (n : Nat) : Prop := (0 ≤ j ∧ j ≤ 255 ∧ 1 ≤ size ∧ size ≤ 64 ∧ n = PM.l k) ∧ EsiOk esi
theorem drop_no (k : Nat) (j size esi : Int) (v : Value) (c : List (List Nat)) (w : World) (k1 : 1 ≤ k) (k2 : k ≤ 40) (hv : Rws w v c) (hn : ¬ Has k j size esi c.length) :
    Calls Tryd.prog 44 #[PV k (PM.s k) 2, .int .i64 j, .int .i64 size, v, .int .i64 esi] w (RowNew w []) := by
  have hm := hv.len
  have hs := PM.s_le k k2
  have hlk : (PM.l k : Int) = k + PM.s k + 2 := by unfold PM.l PM.w; omega
  obtain ⟨a, cap, rfl, _⟩ := hv.slice
  by_cases h1 : size < 1 ∨ 64 < size
  · exact (drop_size _ _ _ j size esi _ w h1).mono fun _ _ h => new_nil h.1 h.2
  · by_cases h2 : c.length = PM.l k
    · refine (drop_fit k (PM.s k) 2 j size esi a c.length cap w (by omega) (by omega) (by omega) (by omega) hm (fun h => hn ?_)).mono fun _ _ h => new_nil h.1 h.2
      obtain ⟨_, a1, a2, a3, a4⟩ := h
      exact ⟨⟨a1, a2, by omega, by omega, h2⟩, a3, a4⟩
    · exact (drop_len k (PM.s k) 2 j size esi a c.length cap w (by omega) (by omega) (by omega) (by omega) (by omega)).mono fun _ _ h => new_nil h.1 h.2
theorem refDrop_no (k : Nat) (j size esi : Int) (v : Value) (c : List (List Nat)) (w : World) (k1 : 1 ≤ k) (k2 : k ≤ 40) (hv : Rws w v c) (hn : ¬ Has k j size esi c.length) :
    Calls Tryd.prog 45 #[.int .i64 k, .int .i64 j, .int .i64 size, v, .int .i64 esi] w (RowNew w []) := by
  obtain ⟨a, cap, rfl, _⟩ := hv.slice
  by_cases hf : FitsK k j esi
  · have hf' := hf
    obtain ⟨_, _, a1, a2, a3, a4⟩ := hf'
    obtain ⟨jn, rfl⟩ := Int.eq_ofNat_of_zero_le a1
    obtain ⟨en, rfl⟩ := Int.eq_ofNat_of_zero_le a3
    refine (refDrop_other k jn en size a c.length cap w k1 k2 (by omega) (by omega) ?_).mono fun _ _ h => new_nil h.1 h.2
    by_cases h2 : c.length = PM.l k
    · refine .inr ?_
      by_cases h1 : size < 1 ∨ 64 < size
      · exact h1
      · exact absurd ⟨⟨a1, a2, by omega, by omega, h2⟩, a3, a4⟩ hn
    · exact .inl (by omega)
  · exact (refDrop_fit k j size esi _ w hf).mono fun _ _ h => new_nil h.1 h.2
/-- What the calls answer that are asked of k, j, size and rows c; d: the symbol of each number. -/
structure Asked8 (k j size : Int) (c : List (List Nat)) (k' s' h' er : Int) (d : Int → List Nat) : Prop where
  of : ∀ w, Calls Tryd.prog 28 #[.int .i64 k] w fun e w' => e = .returned (.tuple #[PV k' s' h', .int .i64 er]) ∧ w.Extends w'
  drop : ∀ (esi : Int) v w, Tab w → Rws w v c → Calls Tryd.prog 44 #[PV k' s' h', .int .i64 j, .int .i64 size, v, .int .i64 esi] w (RowNew w (d esi))
  refDrop : ∀ (esi : Int) v w, Rws w v c → Calls Tryd.prog 45 #[.int .i64 k, .int .i64 j, .int .i64 size, v, .int .i64 esi] w (RowNew w (d esi))
theorem asked8 (k j size : Int) (c : List (List Nat)) : ∃ k' s' h' er d, Asked8 k j size c k' s' h' er d := by
  by_cases hk : k < 1 ∨ 40 < k
  · exact ⟨0, 0, 0, 1, fun _ => [], fun w => prmOf_bad k w hk, fun esi v w _ hv => drop_zero j size esi v c w hv,
      fun esi v w hv => (refDrop_fit k j size esi v w (fun h => by have := h.1; have := h.2.1; omega)).mono fun _ _ h => new_nil h.1 h.2⟩
  · obtain ⟨n, rfl⟩ := Int.eq_ofNat_of_zero_le (show 0 ≤ k by omega)
    have n1 : 1 ≤ n := by omega
    have n2 : n ≤ 40 := by omega
    by_cases hA : 0 ≤ j ∧ j ≤ 255 ∧ 1 ≤ size ∧ size ≤ 64 ∧ c.length = PM.l n
    · have hA' := hA
      obtain ⟨a1, a2, a3, a4, a5⟩ := hA'
      obtain ⟨jn, rfl⟩ := Int.eq_ofNat_of_zero_le a1
      obtain ⟨sn, rfl⟩ := Int.eq_ofNat_of_zero_le (show 0 ≤ size by omega)
      refine ⟨n, PM.s n, 2, 0, fun e => if EsiOk e then DM.drop n jn sn c e.toNat else [], fun w => prmOf_good n w n1 n2, fun esi v w hT hv => ?_, fun esi v w hv => ?_⟩
      · by_cases he : EsiOk esi
        · have he' := he
          obtain ⟨en, rfl⟩ := Int.eq_ofNat_of_zero_le he'.1
          have := he'.2
          show Calls _ _ _ _ (RowNew w (if EsiOk (en : Int) then _ else _))
          rw [if_pos he, Int.toNat_natCast]
          exact (drop_some n jn sn en v c w n1 n2 (by omega) (by omega) (by omega) (by omega) a5 hv hT).mono fun _ _ h => new_made h
        · show Calls _ _ _ _ (RowNew w (if EsiOk esi then _ else _))
          rw [if_neg he]
          exact drop_no n jn sn esi v c w n1 n2 hv (fun h => he h.2)
      · by_cases he : EsiOk esi
        · have he' := he
          obtain ⟨en, rfl⟩ := Int.eq_ofNat_of_zero_le he'.1
          have := he'.2
          show Calls _ _ _ _ (RowNew w (if EsiOk (en : Int) then _ else _))
          rw [if_pos he, Int.toNat_natCast]
          exact (refDrop_some n jn sn en v c w n1 n2 (by omega) (by omega) (by omega) (by omega) a5 hv).mono fun _ _ h => new_made h
        · show Calls _ _ _ _ (RowNew w (if EsiOk esi then _ else _))
          rw [if_neg he]
          exact refDrop_no n jn sn esi v c w n1 n2 hv (fun h => he h.2)
    · exact ⟨n, PM.s n, 2, 0, fun _ => [], fun w => prmOf_good n w n1 n2, fun esi v w _ hv => drop_no n j size esi v c w n1 n2 hv (fun h => hA h.1), fun esi v w hv => refDrop_no n j size esi v c w n1 n2 hv (fun h => hA h.1)⟩
end Go.Proofs.YtbaeieloncmiaaaDoor
/- Package block: Symbol and Size; the reference's Symbol. -/
namespace Go.Proofs.YtbaeieloncmiaaaDoor
set_option maxRecDepth 20000
open Go.RowKit Go.Deep
set_option linter.unusedVariables false
/-- A symbol and an error. -/
def SymOut (w : World) (row : List Nat) (err : Int) (e : Ending) (w' : World) : Prop := ∃ v, e = .returned (.tuple #[v, .int .i64 err]) ∧ w.Extends w' ∧ RowOk w' 0 v row
set_option maxHeartbeats 1000000 in
theorem symbol_yes (b : Nat) (k s h j size esi : Int) (v : Value) (row : List Nat) (w : World) (hb : BAt w b k s h j size v) (hl : 0 < row.length)
    (hd : ∀ w', w.Extends w' → Calls Tryd.prog 44 #[PV k s h, .int .i64 j, .int .i64 size, v, .int .i64 esi] w' (RowNew w' row)) :
    Calls Tryd.prog 21 #[.pointer (some ⟨b, 0, none⟩), .int .i64 esi] w (SymOut w row 0) := by
  have HD := Lib.hid hd
  have HB := Lib.hid (hb.ext (Gr.ext_drew (Gr.ext_refl w)))
  clear hb hd
  go_enter Tryd.func21, Tryd.ntmps21
  go_wp2_with fail
  have HX1 : Hid (w.Extends w.drew) := Gr.ext_drew (Gr.ext_refl w)
  refine Gr.region 18 [(false,0),(false,1),(false,2),(false,3),(false,4),(false,5),(false,6),(false,7),(false,8),(false,9),(false,10),(false,11),(false,12),(false,13),(false,14),(false,15),(false,16),(true,17)] (by kernel_rfl) (by kernel_rfl) (fun d _ _ _ _ h => by cases d <;> exact h) ?_
  simp only [Gr.pick, List.getElem?_cons_zero, List.getElem?_cons_succ, List.drop_succ_cons, List.drop_zero]
  generalize w.drew = w1 at *
  iterate 17
    refine Gr.walk_t ?_ (Or.inl ⟨by rfl, ?_⟩) ?_
    rotate_left
    · intro w' hw'
      obtain ⟨p0, p1, p2, p3, p4, p5⟩ := HB.out.ext hw'
      clear hw'
      go_simp
      try with_reducible rfl
    simp only [Act.put, List.setIfInBounds_toArray, List.set_cons_zero, List.set_cons_succ]
  refine Gr.walk_c (fun K hK => ?_)
  go_simp
  refine (HD.out w1 HX1.out).mono ?_
  rintro e w2 ⟨u, rfl, hx2, hu⟩
  have hue := hu.1.slice
  have HU := Lib.hid hu
  obtain ⟨ua, uc, rfl, _⟩ := hue
  have HX2 := Lib.hid (Gr.ext_trans HX1.out hx2)
  try go_simp
  refine hK.out _ _ (hx2) ?_
  clear hK K
  clear hx2 hu HX1 HD HB
  have HP : Hid (SymOut w row 0 (.returned (.tuple #[.slice ua row.length uc, .int .i64 0])) w2) := ⟨_, rfl, HX2.out, HU.out⟩
  generalize row.length = n at *
  have hn0 : ((n : Int) == 0) = false := by rw [beq_eq_false_iff_ne]; omega
  refine Gr.walk_nil ?_
  go_wp2
  go_returns
  exact HP.out
set_option maxHeartbeats 1000000 in
theorem symbol_no (b : Nat) (k s h j size esi : Int) (v : Value) (w : World) (hb : BAt w b k s h j size v)
    (hd : ∀ w', w.Extends w' → Calls Tryd.prog 44 #[PV k s h, .int .i64 j, .int .i64 size, v, .int .i64 esi] w' (RowNew w' [])) :
    Calls Tryd.prog 21 #[.pointer (some ⟨b, 0, none⟩), .int .i64 esi] w (SymOut w [] 1) := by
  have HD := Lib.hid hd
  have HB := Lib.hid (hb.ext (Gr.ext_drew (Gr.ext_refl w)))
  clear hb hd
  go_enter Tryd.func21, Tryd.ntmps21
  go_wp2_with fail
  have HX1 : Hid (w.Extends w.drew) := Gr.ext_drew (Gr.ext_refl w)
  refine Gr.region 18 [(false,0),(false,1),(false,2),(false,3),(false,4),(false,5),(false,6),(false,7),(false,8),(false,9),(false,10),(false,11),(false,12),(false,13),(false,14),(false,15),(false,16),(true,17)] (by kernel_rfl) (by kernel_rfl) (fun d _ _ _ _ h => by cases d <;> exact h) ?_
  simp only [Gr.pick, List.getElem?_cons_zero, List.getElem?_cons_succ, List.drop_succ_cons, List.drop_zero]
  generalize w.drew = w1 at *
  iterate 17
    refine Gr.walk_t ?_ (Or.inl ⟨by rfl, ?_⟩) ?_
    rotate_left
    · intro w' hw'
      obtain ⟨p0, p1, p2, p3, p4, p5⟩ := HB.out.ext hw'
      clear hw'
      go_simp
      try with_reducible rfl
    simp only [Act.put, List.setIfInBounds_toArray, List.set_cons_zero, List.set_cons_succ]
  refine Gr.walk_c (fun K hK => ?_)
  go_simp
  refine (HD.out w1 HX1.out).mono ?_
  rintro e w2 ⟨u, rfl, hx2, hu⟩
  have hue := hu.1.slice
  obtain ⟨ua, uc, rfl, _⟩ := hue
  have HX2 := Lib.hid (Gr.ext_trans HX1.out hx2)
  try go_simp
  refine hK.out _ _ (hx2) ?_
  clear hK K
  clear hx2 hu HX1 HD HB
  have HP : Hid (SymOut w [] 1 (.returned (.tuple #[.slice none 0 0, .int .i64 1])) w2) := ⟨_, rfl, HX2.out, nil_ok _ _⟩
  refine Gr.walk_nil ?_
  go_wp2
  go_returns
  exact HP.out
theorem size_any (b : Nat) (k s h j size : Int) (v : Value) (w : World) (hb : BAt w b k s h j size v) :
    Calls Tryd.prog 26 #[.pointer (some ⟨b, 0, none⟩)] w fun e w' => e = .returned (.int .i64 size) ∧ w = w' := by
  obtain ⟨p0, p1, p2, p3, p4, p5⟩ := hb
  go_enter Tryd.func26, Tryd.ntmps26
  go_wp2
  go_ret
  exact ⟨rfl, rfl⟩
/-- The symbol of a number, nothing where there is none; and the error. -/
def symOf (k j size : Nat) (c : List (List Nat)) (esi : Int) : List Nat := if EsiOk esi then DM.drop k j size c esi.toNat else []
def symErr (esi : Int) : Int := if EsiOk esi then 0 else 1
/-- Symbol of a block. -/
theorem symbol_any (b k j size : Nat) (esi : Int) (v : Value) (c : List (List Nat)) (w : World) (k1 : 1 ≤ k) (k2 : k ≤ 40) (hj : j ≤ 255) (h1 : 1 ≤ size) (h2 : size ≤ 64) (hl : c.length = PM.l k) (hb : BAt w b k (PM.s k) 2 j size v) (hv : Rws w v c) (hT : Tab w) :
    Calls Tryd.prog 21 #[.pointer (some ⟨b, 0, none⟩), .int .i64 esi] w (SymOut w (symOf k j size c esi) (symErr esi)) := by
  by_cases he : EsiOk esi
  · have he' := he
    obtain ⟨en, rfl⟩ := Int.eq_ofNat_of_zero_le he'.1
    have := he'.2
    unfold symOf symErr
    rw [if_pos he, if_pos he, Int.toNat_natCast]
    exact symbol_yes b k (PM.s k) 2 j size en v _ w hb (by rw [DM.drop_length]; exact h1) fun w' hx => (drop_some k j size en v c w' k1 k2 hj (by omega) h1 h2 hl (hv.ext hx) (hT.ext hx)).mono fun _ _ h => new_made h
  · unfold symOf symErr
    rw [if_neg he, if_neg he]
    exact symbol_no b k (PM.s k) 2 j size esi v w hb fun w' hx => drop_no k j size esi v c w' k1 k2 (hv.ext hx) (fun h => he h.2)
/-- The reference's block. -/
def RAt (w : World) (b : Nat) (k j size : Int) (v : Value) : Prop :=
  w.cell? ⟨b, 0, none⟩ = some (.int .i64 k) ∧ w.cell? ⟨b, 1, none⟩ = some (.int .i64 j) ∧ w.cell? ⟨b, 2, none⟩ = some (.int .i64 size) ∧ w.cell? ⟨b, 3, none⟩ = some v
theorem RAt.ext {w w' : World} {b : Nat} {k j size : Int} {v : Value} (hp : RAt w b k j size v) (hx : w.Extends w') : RAt w' b k j size v :=
  ⟨hx.cell_of hp.1, hx.cell_of hp.2.1, hx.cell_of hp.2.2.1, hx.cell_of hp.2.2.2⟩
theorem RAt.new (w : World) (T : TypeId) (k j size : Int) (v : Value) : RAt (w.alloc (.cells #[.int .i64 k, .int .i64 j, .int .i64 size, v] T)) w.heap.size k j size v := by
  have h0 := heap_alloc_new w (.cells #[.int .i64 k, .int .i64 j, .int .i64 size, v] T)
  exact ⟨by rw [cell_of_row _ _ _ _ _ _ h0]; rfl, by rw [cell_of_row _ _ _ _ _ _ h0]; rfl, by rw [cell_of_row _ _ _ _ _ _ h0]; rfl, by rw [cell_of_row _ _ _ _ _ _ h0]; rfl⟩
set_option maxHeartbeats 1000000 in
set_option maxRecDepth 100000 in
theorem refSymbol_any (b k j size : Nat) (esi : Int) (v : Value) (c : List (List Nat)) (w : World) (k1 : 1 ≤ k) (k2 : k ≤ 40) (hj : j ≤ 255) (h1 : 1 ≤ size) (h2 : size ≤ 64) (hl : c.length = PM.l k) (hb : RAt w b k j size v) (hv : Rws w v c) :
    Calls Tryd.prog 22 #[.pointer (some ⟨b, 0, none⟩), .int .i64 esi] w (SymOut w (symOf k j size c esi) (symErr esi)) := by
  by_cases he : EsiOk esi
  · have he' := he
    obtain ⟨en, rfl⟩ := Int.eq_ofNat_of_zero_le he'.1
    have hen : en < 16777216 := by have := he'.2; omega
    unfold symOf symErr
    rw [if_pos he, if_pos he, Int.toNat_natCast]
    have HD : Hid (∀ w', w.Extends w' → Calls Tryd.prog 45 #[.int .i64 k, .int .i64 j, .int .i64 size, v, .int .i64 en] w' (RowNew w' (DM.drop k j size c en))) := fun w' hx =>
      (refDrop_some k j size en v c w' k1 k2 hj (by omega) h1 h2 hl (hv.ext hx)).mono fun _ _ h => new_made h
    generalize DM.drop k j size c en = row at *
    have HB := Lib.hid (hb.ext (Gr.ext_drew (Gr.ext_refl w)))
    clear hb hv he he' hl h1 h2 k1 k2 hj
    go_enter Tryd.func22, Tryd.ntmps22
    go_wp2_with fail
    have HX1 : Hid (w.Extends w.drew) := Gr.ext_drew (Gr.ext_refl w)
    refine Gr.region 18 [(false,0),(false,1),(false,2),(false,3),(false,4),(false,5),(false,6),(false,7),(false,8),(false,9),(false,10),(false,11),(false,12),(false,13),(false,14),(false,15),(false,16),(true,17)] (by kernel_rfl) (by kernel_rfl) (fun d _ _ _ _ h => by cases d <;> exact h) ?_
    simp only [Gr.pick, List.getElem?_cons_zero, List.getElem?_cons_succ, List.drop_succ_cons, List.drop_zero]
    generalize w.drew = w1 at *
    iterate 17
      refine Gr.walk_t ?_ (Or.inl ⟨by rfl, ?_⟩) ?_
      rotate_left
      · intro w' hw'
        obtain ⟨p0, p1, p2, p3⟩ := HB.out.ext hw'
        clear hw'
        go_simp
        try with_reducible rfl
      simp only [Act.put, List.setIfInBounds_toArray, List.set_cons_zero, List.set_cons_succ]
    refine Gr.walk_c (fun K hK => ?_)
    go_simp
    refine (HD.out w1 HX1.out).mono ?_
    rintro e w2 ⟨u, rfl, hx2, hu⟩
    have HP : Hid (SymOut w row 0 (.returned (.tuple #[u, .int .i64 0])) w2) := ⟨_, rfl, Gr.ext_trans HX1.out hx2, hu⟩
    try go_simp
    refine hK.out _ _ (hx2) ?_
    clear hK K
    clear hx2 hu HX1 HD HB
    refine Gr.walk_nil ?_
    go_wp2
    go_returns
    exact HP.out
  · have HP : Hid (SymOut w [] 1 (.returned (.tuple #[.slice none 0 0, .int .i64 1])) w) := ⟨_, rfl, Gr.ext_refl _, nil_ok _ _⟩
    unfold symOf symErr
    rw [if_neg he, if_neg he]
    clear hb hv
    unfold EsiOk at he
    by_cases c1 : esi < 0
    rotate_left
    have c2 : 16777216 ≤ esi := by omega
    all_goals
      clear he
      go_enter Tryd.func22, Tryd.ntmps22
      go_wp2
      go_returns
      exact HP.out
end Go.Proofs.YtbaeieloncmiaaaDoor
