/- In one text: BlkMath, SeeFirst, RndLaid, SeeFind, MatsOld, BlkParts, BlkNew, DroDrop. -/
import Derived.RowKit3
import Derived.Lib.LaidTab
import Derived.MakeChecks
import Derived.Stop.Joined
import Derived.OpenShut
import Derived.Test.YtpfmmfapdcbnkaaDoorMA2
import Derived.Test.YtpfmmfapdcbnkaaDoorMA3
import Derived.Test.YtpfmmfapdcbnkaaDoorMA4
import Derived.Test.YtpfmmfapdcbnkaaDoorMA5
import Derived.Test.YtpfmmfapdcbnkaaDoorMA9
import Derived.Test.YtpfmmfapdcbnkaaDoorMA10
import Derived.Test.YtpfmmfapdcbnkaaDoorMA11
namespace Go.Proofs.YtpfmmfapdcbnkaaDoor
set_option maxRecDepth 20000
set_option linter.unusedVariables false
namespace LA
open FM
/-- Rows can be brought to steps, column by column. -/
theorem ref_exists {n : Nat} {u0 : Nat → V} (hb : ∀ j, j < n → Bd (u0 j)) : ∀ c, ∃ r has u, RefInv c r n has u u0
  | 0 => ⟨0, _, _, RefInv.start n u0 hb⟩
  | c + 1 => by
    obtain ⟨r, has, u, h⟩ := ref_exists hb c
    by_cases hp : ∃ p, r ≤ p ∧ p < n ∧ u p c ≠ 0
    · obtain ⟨p, h1, h2, h3⟩ := hp
      exact ⟨_, _, _, h.step h1 h2 h3⟩
    · exact ⟨_, _, _, h.skip fun j h1 h2 => Decidable.byContradiction fun h3 => hp ⟨j, h1, h2, h3⟩⟩
/-- As many rows as columns, which all lead: some unknowns solve. -/
theorem square {W S : Nat} {f : Nat → V} (hf : ∀ j, j < W → Bd (f j)) (hl : RankIs W (· < W) f W) : ∃ x, Sol W S (· < W) f x := by
  obtain ⟨r, has, u, h⟩ := ref_exists hf W
  have hr : r = W := h.rankIs.uniq hl
  have hu := h.unit hr
  refine ⟨fun k i => if i < W then u i (W + k) else 0, ?_⟩
  have hs : Sol W S (· < W) u (fun k i => if i < W then u i (W + k) else 0) := by
    have hbx : ∀ k, Bd (fun i => if i < W then u i (W + k) else 0) := fun k i => by
      show (if i < W then u i (W + k) else 0) < 256
      split
      · rename_i hi; exact h.bd i hi _
      · omega
    refine ⟨hbx, fun j hj k hk => ?_⟩
    rw [dots_one W j _ _ hj fun i hi hne => by rw [hu j hj i hi, if_neg (Ne.symm hne), tm_zero_left], hu j hj j hj, if_pos rfl, tm_one_left _ (hbx k j)]
    show _ = (if j < W then u j (W + k) else 0)
    rw [if_pos hj]
  exact hs.sub h.bd h.from_
/-- A list of unknowns as rows. -/
theorem sol_rows {W S : Nat} {P : Nat → Prop} {f : Nat → V} {x : Nat → V} (hl : ∀ c, c < W → Lead P f c) (hs : Sol W S P f x) : ∃ X, SolveRes W S P f (some X) := by
  refine ⟨(List.range W).map fun i => (List.range S).map fun k => x k i, by simp, fun i hi => by simp [hi], hl, ?_⟩
  have hx : ∀ i k, i < W → k < S → xOf ((List.range W).map fun i => (List.range S).map fun k => x k i) k i = x k i := fun i k hi hk => by
    unfold xOf; simp [hi, hk]
  have hb : ∀ i k, xOf ((List.range W).map fun i => (List.range S).map fun k => x k i) k i < 256 := fun i k => by
    by_cases hi : i < W
    · by_cases hk : k < S
      · rw [hx i k hi hk]; exact hs.1 k i
      · unfold xOf; simp [hi, hk]
    · unfold xOf; simp [hi]
  refine ⟨fun k i => hb i k, fun j hj k hk => ?_⟩
  rw [hs.2 j hj k hk]
  exact dots_congr W _ _ _ _ fun i hi => by rw [hx i k hi hk]
/-- Where l are unlike places: the products with the row that has 1 at these. -/
def ind (l : List Nat) : V := fun i => if i ∈ l then 1 else 0
theorem fold_start (p : List Nat) (f : Nat → Nat) : ∀ s : Nat, p.foldl (fun x q => x ^^^ f q) s = s ^^^ p.foldl (fun x q => x ^^^ f q) 0 := by
  induction p with
  | nil => intro s; simp
  | cons q p ih => intro s; rw [List.foldl_cons, List.foldl_cons, ih, ih (0 ^^^ f q), Nat.zero_xor, Nat.xor_assoc]
theorem dots_ind (n : Nat) (y : V) (hy : Bd y) : ∀ l : List Nat, l.Nodup → (∀ q ∈ l, q < n) → dots n (ind l) y = l.foldl (fun x q => x ^^^ y q) 0
  | [], _, _ => dots_zero n _ _ fun i _ => by
      show tm (if i ∈ ([] : List Nat) then 1 else 0) _ = 0
      rw [if_neg (by simp), tm_zero_left]
  | q :: l, hn, hlt => by
    rw [List.nodup_cons] at hn
    have hb : ∀ l, Bd (ind l) := fun l i => by show (if i ∈ l then 1 else 0) < 256; split <;> omega
    have e : ind (q :: l) = LA.add (ind l) (ind [q]) := funext fun i => by
      show (if i ∈ q :: l then 1 else 0) = (if i ∈ l then 1 else 0) ^^^ (if i ∈ [q] then 1 else 0)
      by_cases h1 : i = q
      · subst h1; rw [if_pos (by simp), if_neg hn.1, if_pos (by simp)]; rfl
      · by_cases h2 : i ∈ l
        · rw [if_pos (by simp [h2]), if_pos h2, if_neg (by simp [h1])]; rfl
        · rw [if_neg (by simp [h1, h2]), if_neg h2, if_neg (by simp [h1])]; rfl
    rw [e, dots_add n _ _ y (hb _) (hb _), dots_ind n y hy l hn.2 (fun p hp => hlt p (by simp [hp])), List.foldl_cons, fold_start l y (0 ^^^ y q), Nat.zero_xor, Nat.xor_comm]
    congr 1
    rw [dots_one n q _ y (hlt q (by simp)) fun i hi hne => by
      show tm (if i ∈ [q] then 1 else 0) _ = 0
      rw [if_neg (by simpa using hne), tm_zero_left]]
    show tm (if q ∈ [q] then 1 else 0) _ = _
    rw [if_pos (by simp), tm_one_left _ (hy q)]
end LA
theorem TM.marks_at (n : Nat) (l : List Nat) (i : Nat) (h : i < n) : (TM.marks n l).getD i 0 = LA.ind l i := by
  have key : ∀ (l r : List Nat), i < r.length → (l.foldl (fun r p => r.set p 1) r).getD i 0 = if i ∈ l then 1 else r.getD i 0 := by
    intro l
    induction l with
    | nil => intro r _; simp
    | cons p l ih =>
      intro r hr
      rw [List.foldl_cons, ih _ (by rw [List.length_set]; exact hr)]
      by_cases h1 : i ∈ l
      · rw [if_pos h1, if_pos (by simp [h1])]
      · rw [if_neg h1]
        by_cases h2 : i = p
        · subst h2; rw [if_pos (by simp)]; simp [hr]
        · rw [if_neg (by simp [h1, h2])]; simp [Ne.symm h2]
  unfold TM.marks
  rw [key l _ (by simpa using h)]
  show _ = (if i ∈ l then 1 else 0)
  split
  · rfl
  · simp [h]
namespace BM
/-- What the rows are to be mixed to: nothing for the low and the high ones, then the source. -/
def mixed (k : Nat) (src : List (List Nat)) : List (List Nat) := List.replicate (PM.s k + 2) [] ++ src
theorem mixed_length (k : Nat) (src : List (List Nat)) : (mixed k src).length = PM.s k + 2 + src.length := by simp [mixed]
theorem mixed_low (k : Nat) (src : List (List Nat)) (i : Nat) (h : i < PM.s k + 2) : (mixed k src).getD i [] = [] := by
  unfold mixed
  rw [List.getD_eq_getElem?_getD, List.getElem?_append_left (by rw [List.length_replicate]; exact h), List.getElem?_replicate, if_pos h]; rfl
theorem mixed_src (k : Nat) (src : List (List Nat)) (i : Nat) : (mixed k src).getD (PM.s k + 2 + i) [] = src.getD i [] := by
  unfold mixed
  rw [List.getD_eq_getElem?_getD, List.getElem?_append_right (by simp), List.getD_eq_getElem?_getD]; simp
theorem mixed_lt (k : Nat) {src : List (List Nat)} (h : ∀ r ∈ src, ∀ x ∈ r, x < 256) : ∀ r ∈ mixed k src, ∀ x ∈ r, x < 256 := by
  intro r hr x hx
  rcases List.mem_append.1 hr with h' | h'
  · rw [(List.mem_replicate.1 h').2] at hx; cases hx
  · exact h r h' x hx
/-- The rows and what they are mixed to, as vectors. -/
def F (k j size : Nat) (src : List (List Nat)) : Nat → LA.V := rowsF (PM.l k) size (SM.rows k j) (mixed k src)
def PartsIs (k j size : Nat) (src c : List (List Nat)) : Prop := SolveRes (PM.l k) size (· < PM.l k) (F k j size src) (some c)
theorem rows_l (k j : Nat) : (SM.rows k j).length = PM.l k := by rw [SM.rows_length]; unfold PM.l PM.w; omega
theorem rows_lt (k j : Nat) : ∀ r ∈ SM.rows k j, ∀ x ∈ r, x < 256 := by
  intro r hr x hx
  unfold SM.rows QM.mat at hr
  rcases List.mem_append.1 hr with h | h
  · rcases List.mem_append.1 h with h | h
    · obtain ⟨i, _, rfl⟩ := List.mem_map.1 h
      exact QM.tab_lt (fun x _ => QM.lowE_lt _ _ _) x hx
    · obtain ⟨i, _, rfl⟩ := List.mem_map.1 h
      exact QM.tab_lt (fun x _ => QM.hiE_lt _ _ _) x hx
  · obtain ⟨e, _, rfl⟩ := List.mem_map.1 h
    exact TM.marks_lt _ _ x hx
theorem F_bd (k j size : Nat) {src : List (List Nat)} (h : ∀ r ∈ src, ∀ x ∈ r, x < 256) (i : Nat) : LA.Bd (F k j size src i) := rowsF_bd _ _ (rows_lt k j) (mixed_lt k h) i
theorem F_low (k j size : Nat) (src : List (List Nat)) (i x : Nat) (h : x < PM.l k) : F k j size src i x = (RM.sum (PM.l k) [(SM.rows k j).getD i []]).getD x 0 := if_pos h
theorem F_high (k j size : Nat) (src : List (List Nat)) (i x : Nat) (h : x < size) : F k j size src i (PM.l k + x) = ((mixed k src).getD i []).getD x 0 := by
  unfold F rowsF
  rw [vec_high]
  exact LA.sum1_getD size _ x h
theorem PartsIs.uniq {k j size : Nat} {src c c' : List (List Nat)} (hs : ∀ r ∈ src, ∀ x ∈ r, x < 256) (h : PartsIs k j size src c) (h' : PartsIs k j size src c') : c = c' :=
  Option.some.inj (SolveRes.uniq (fun i _ => F_bd k j size hs i) h h')
theorem lead_of {k j : Nat} (size : Nat) (src : List (List Nat)) (g : SM.Good k j) : ∀ c, c < PM.l k → LA.Lead (· < PM.l k) (F k j size src) c := fun c hc => by
  unfold SM.Good at g
  rw [rows_l] at g
  exact (LA.lead_trunc (fun i _ => rowsF_trunc (PM.l k) size (SM.rows k j) (mixed k src) i) c hc).2 (g.full c hc)
/-- There are parts. -/
theorem parts_exist {k j : Nat} (size : Nat) {src : List (List Nat)} (g : SM.Good k j) (hs : ∀ r ∈ src, ∀ x ∈ r, x < 256) : ∃ c, PartsIs k j size src c := by
  have hl := lead_of size src g
  obtain ⟨x, hx⟩ := LA.square (S := size) (fun i _ => F_bd k j size hs i) (LA.RankIs.of_full hl)
  exact LA.sol_rows hl hx
/-- Whatever solving answers, it is these. -/
theorem res_some {k j size : Nat} {src : List (List Nat)} {res : Option (List (List Nat))} (g : SM.Good k j) (hs : ∀ r ∈ src, ∀ x ∈ r, x < 256) (h : SolveRes (PM.l k) size (· < PM.l k) (F k j size src) res) : ∃ c, res = some c ∧ PartsIs k j size src c := by
  obtain ⟨c, hc⟩ := parts_exist size g hs
  exact ⟨c, SolveRes.uniq (fun i _ => F_bd k j size hs i) h hc, hc⟩
theorem PartsIs.len {k j size : Nat} {src c : List (List Nat)} (h : PartsIs k j size src c) : c.length = PM.l k := h.1
theorem append_map_at {X : Type} (A : List X) (g : Nat → X) (l : List Int) (n i e : Nat) (d : X) (hA : A.length = n) (hl : l[i]? = some (e : Int)) : (A ++ l.map fun x => g x.toNat).getD (n + i) d = g e := by
  rw [List.getD_eq_getElem?_getD, List.getElem?_append_right (by omega), show n + i - A.length = i by omega, List.getElem?_map, hl]
  rfl
theorem iota_some (k i : Nat) (hi : i < k) : (SM.iota k)[i]? = some (i : Int) := by
  have := SM.iota_at k i hi
  rw [List.getD_eq_getElem?_getD, List.getElem?_eq_getElem (by rw [SM.iota_length]; exact hi)] at this
  rw [List.getElem?_eq_getElem (by rw [SM.iota_length]; exact hi)]
  simpa using this
theorem row_sym (k j i : Nat) (hi : i < k) : (SM.rows k j).getD (PM.s k + 2 + i) [] = TM.row k j i := by
  have hA : (QM.low k ++ QM.high k).length = PM.s k + 2 := by rw [List.length_append]; unfold QM.low QM.high; rw [QM.grid_length, QM.grid_length]
  have hI := iota_some k i hi
  unfold SM.rows QM.mat QM.syms
  generalize QM.low k ++ QM.high k = A at *
  generalize TM.row k j = g at *
  exact append_map_at A g _ _ i i [] hA hI
/-- The symbols of the first numbers are the source. -/
theorem PartsIs.source {k j size : Nat} {src c : List (List Nat)} (h : PartsIs k j size src c) (i : Nat) (hi : i < k) (hl : (src.getD i []).length = size) : DM.drop k j size c i = src.getD i [] := by
  refine RM.list_ext (by rw [DM.drop_length, hl]) fun x hx => ?_
  rw [DM.drop_length] at hx
  have hrow : PM.s k + 2 + i < PM.l k := by unfold PM.l PM.w; omega
  have h1 := h.2.2.2.2 (PM.s k + 2 + i) hrow x hx
  rw [F_high k j size src _ x hx, mixed_src] at h1
  rw [h1]
  unfold DM.drop
  rw [DM.sum_pick_at _ _ _ _ hx]
  have hnd : (TM.parts k j i).Nodup := TM.partsW_once _ _
  have hlt : ∀ q ∈ TM.parts k j i, q < PM.l k := fun q hq => TM.partsW_lt _ _ q hq
  have hr : ∀ q, q < PM.l k → F k j size src (PM.s k + 2 + i) q = LA.ind (TM.parts k j i) q := fun q hq => by
    rw [F_low k j size src _ q hq, LA.sum1_getD _ _ q hq, row_sym k j i hi]
    exact TM.marks_at _ _ _ hq
  generalize TM.parts k j i = p at *
  rw [LA.dots_congr (PM.l k) _ _ (LA.ind p) (xOf c x) (fun q hq => by rw [hr q hq]), LA.dots_ind (PM.l k) _ (h.2.2.2.1 x) p hnd hlt]
  rfl
end BM
end Go.Proofs.YtpfmmfapdcbnkaaDoor
namespace Go.Proofs.YtpfmmfapdcbnkaaDoor
set_option maxRecDepth 20000
open Go.RowKit Go.Deep
set_option linter.unusedVariables false
/-- A slice of the call's own of these ints. -/
def OwnInts (w : World) (l : List Int) (e : Ending) (w' : World) : Prop := ∃ v, e = .returned v ∧ w.Extends w' ∧ Ints w' v l
/-- Block g holds n ints, the first k of them their own places. -/
def Upto (w : World) (g n k : Nat) : Prop := w.rowIs g 3 n (fun i => .int .i64 (if i < k then (i : Nat) else 0 : Nat))
theorem Upto.made (w : World) (n : Nat) : Upto (w.alloc (.cells (madeCells #[.int .i64 0] n) 3)) w.heap.size n 0 :=
  (World.rowIs_made w (.int .i64 0) n 3).congr fun i hi => by simp
theorem Upto.set {w : World} {g n k : Nat} (h : Upto w g n k) : Upto (w.setCell ⟨g, k, none⟩ (.int .i64 (k : Nat))) g n (k + 1) :=
  (World.rowIs.set h k (.int .i64 (k : Nat))).congr fun i hi => by
    by_cases e : i = k
    · subst e; simp
    · by_cases e2 : i < k
      · simp [e, e2, show i < k + 1 by omega]
      · simp [e, e2, show ¬ i < k + 1 by omega]
theorem firstEsis_any (n : Nat) (w : World) (hn : n ≤ 1000) :
    Calls Tryd.prog 32 #[.int .i64 n] w (OwnInts w (SM.iota n)) := by
  obtain ⟨i0, hi, hz0, hz1, hz2⟩ := info_parts intinfo
  have HI := Lib.hid hi; clear hi
  have HZ0 := Lib.hid hz0; clear hz0
  have HZ1 := Lib.hid hz1; clear hz1
  have HZ2 := Lib.hid hz2; clear hz2
  go_enter Tryd.func32, Tryd.ntmps32
  go_wp2_with fail
  go_loopw [3, 6] (fun v i wr => ∃ k : Nat, k ≤ n ∧ i = .int .i64 k ∧ Hid (w.Extends wr) ∧ Hid (wr.ownsRow w.heap.size 3 1 v k (i64vs (SM.iota k)))) (fun _ i _ => (n - intOf i).toNat)
  case atStart => exact ⟨0, by omega, rfl, Lib.hid (Gr.ext_refl _), Lib.hid (World.ownsRow_nil _ _ _ _)⟩
  case round =>
    obtain ⟨k, hk, rfl, HX, HOWN⟩ := hrel
    by_cases h1 : k < n
    · have HOB : Hid (∀ g, u3.ownBlock = some g → w.heap.size ≤ g) := fun g hg => (HOWN.out.lt g hg).1
      have hbs := HX.out.size
      have HSN : Hid (i64vs (SM.iota k) ++ [.int .i64 (k : Nat)] = i64vs (SM.iota (k + 1))) := by show _ = _; rw [← SM.iota_snoc, i64vs_snoc]
      go_wp2_with (at_builtin; refine wpList_append_own_src _ rfl _ _ 83 83 rfl w.heap.size 3 i0 (.int .i64 0) 1 8 Tryd.underlying83 HI.out HZ0.out HZ1.out HZ2.out rfl _ _ _ rfl (HOWN.out.alloc _) _ 1 [.int .i64 k] rfl (src_one Tryd.underlying83 _ _ rfl rfl) (by unfold maxLen; omega) (by omega) (by simp; omega) ?_)
      intro v' w3 ho3 hg3 _
      have HP1 : Hid (w.Extends w3) := Gr.ext_of (((Gr.below_of HX.out).alloc hbs _).grown hg3 (by simp; omega) HOB.out)
      rw [HSN.out] at ho3
      have HP2 := Lib.hid ho3
      clear ho3 hg3
      go_wp2
      go_roundw
      case rel => exact ⟨k + 1, by omega, by go_num, HP1, HP2⟩
      case measure => simp [intOf]; omega
    · obtain rfl : k = n := by omega
      have HP : Hid (OwnInts w (SM.iota k) (.returned u3) wr) := ⟨_, rfl, HX.out, owns_ints HOWN.out⟩
      go_wp2
      go_ret
      exact HP.out
end Go.Proofs.YtpfmmfapdcbnkaaDoor
namespace Go.Proofs.YtpfmmfapdcbnkaaDoor
set_option maxRecDepth 20000
open Go.RowKit Go.ChangeShapes Go.WideShapes
theorem i64_bounds {a : Int} (h : (Lit.int .i64 a).wf = true) : -9223372036854775808 ≤ a ∧ a ≤ 9223372036854775807 := by
  simp [Lit.wf, IntKind.min, IntKind.max, IntKind.signed, IntKind.bits] at h
  omega
theorem gN : Tryd.prog.globalNamed "fountain/random.degreeBounds" = some 0 := by kernel_rfl
theorem gNType : (Tryd.prog.globals[0]?).map (·.type) = some 132 := by kernel_rfl
theorem of_laid {W : World} (h : laidMetH Tryd.prog [("fountain/random.degreeBounds", Rows.laid_fountain_random_degreeBounds)] W) : Tab W := by
  rw [MakeChecks.laidMetH_plain _ _ _ (by kernel_rfl)] at h
  have hT : Lib.TabIs Tryd.prog W "fountain/random.degreeBounds" .i64 RM.bounds :=
    Lib.tabIs_of_head (rest := []) gN gNType Tryd.underlying132 Tryd.underlying3 (by kernel_rfl) (by kernel_rfl) h
  exact fun i hi => hT.cell gN i hi
end Go.Proofs.YtpfmmfapdcbnkaaDoor
namespace Go.Proofs.YtpfmmfapdcbnkaaDoor
set_option maxRecDepth 20000
open Go.RowKit Go.Deep
set_option linter.unusedVariables false
/-- The answer tells whether j is good. -/
def GoodOut (w : World) (k j : Nat) (e : Ending) (w' : World) : Prop := (∃ b : Bool, e = .returned (.bool b) ∧ (b = true ↔ SM.Good k j)) ∧ w.Extends w'
theorem wid_l (k : Nat) (h : k ≤ 40) : wid (PM.l k : Int) = PM.l k := by have := PM.l_le k h; unfold wid; omega
theorem mats_rows {w : World} {B : Nat} {T : TypeId} {v : Value} {l : List (List Nat)} (h : Mats w B 0 T v l.length l) : Rws w v l := Mats.rws h rfl
theorem eq_good {k j r : Nat} (h : LA.RankIs (PM.l k) (· < (SM.rows k j).length) (rowsF (PM.l k) 0 (SM.rows k j) []) r) : ((r : Int) == (PM.l k : Int)) = true ↔ SM.Good k j := by
  rw [beq_iff_eq, ← SM.good_iff h]; omega
theorem settled_any (k j : Nat) (v : Value) (w : World) (h1 : 1 ≤ k) (h2 : k ≤ 40) (hv : Rws w v (SM.rows k j)) :
    Calls Tryd.prog 39 #[PV k (PM.s k) 2, v] w (GoodOut w k j) := by
  have hs7 := PM.s_le k h2
  have HL := Lib.hid (fun w => prmL_any k (PM.s k) 2 w (by omega) (by omega))
  have hlk : (k : Int) + (PM.s k : Int) + 2 = (PM.l k : Int) := by unfold PM.l PM.w; omega
  simp only [hlk] at HL
  have HR : Hid (∀ w, Rws w v (SM.rows k j) → Calls Tryd.prog 46 #[.int .i64 (PM.l k), v] w (RankOut w (PM.l k) (· < (SM.rows k j).length) (rowsF (PM.l k) 0 (SM.rows k j) []))) := fun w hv => by
    have := rank_any (PM.l k) v (SM.rows k j) w hv
    rwa [wid_l k h2] at this
  have HE : Hid (∀ r : Nat, LA.RankIs (PM.l k) (· < (SM.rows k j).length) (rowsF (PM.l k) 0 (SM.rows k j) []) r → (((r : Int) == (PM.l k : Int)) = true ↔ SM.Good k j)) := fun r h => eq_good h
  have hl49 := PM.l_le k h2
  have HV := Lib.hid hv
  obtain ⟨a, cap, rfl, _⟩ := hv.slice
  clear hv hlk hs7
  generalize hF : rowsF (PM.l k) 0 (SM.rows k j) [] = F at *
  clear hF
  generalize SM.rows k j = rs at *
  generalize PM.l k = L at *
  generalize PM.s k = S at *
  go_enter Tryd.func39, Tryd.ntmps39
  go_wp2_with fail
  generalize hw1 : World.alloc w _ = w1
  have hx1 : w.Extends w1 := by subst hw1; exact prm_ext_alloc _ _
  have hp : PAt w1 w.heap.size k S 2 := by subst hw1; exact PAt.new w 74 k S 2
  obtain ⟨b, hb⟩ : ∃ b, b = w.heap.size := ⟨_, rfl⟩
  rw [← hb] at hp ⊢
  clear hw1 hb
  have HX1 := Lib.hid (Gr.ext_drew hx1)
  have HP1 := Lib.hid (hp.ext (Gr.ext_drew (Gr.ext_refl w1)))
  clear hx1 hp
  refine Gr.region 7 [(false,0),(false,2),(false,4),(true,1),(true,3),(true,5),(false,6)] (by kernel_rfl) (by kernel_rfl) (fun d _ _ _ _ h => by cases d <;> exact h) ?_
  simp only [Gr.pick, List.getElem?_cons_zero, List.getElem?_cons_succ, List.drop_succ_cons, List.drop_zero]
  generalize w1.drew = w2 at *
  iterate 3
    refine Gr.walk_t ?_ (Or.inl ⟨by rfl, ?_⟩) ?_
    rotate_left
    · intro w' hw'
      obtain ⟨p0, p1, p2⟩ := HP1.out.ext hw'
      clear hw'
      go_simp
      try with_reducible rfl
    simp only [Act.put, List.setIfInBounds_toArray, List.set_cons_zero, List.set_cons_succ]
  refine Gr.walk_c (fun K hK => ?_)
  go_simp
  refine (HL.out w2).mono ?_
  rintro e w3 ⟨rfl, hx3⟩
  have HX3 := Lib.hid (Gr.ext_trans HX1.out hx3)
  try go_simp
  refine hK.out _ _ (hx3) ?_
  clear hK K
  clear hx3 HX1
  refine Gr.walk_c (fun K hK => ?_)
  go_simp
  refine (HR.out w3 (HV.out.ext HX3.out)).mono ?_
  rintro e w4 ⟨r, rfl, hr, hb4⟩
  have hx4 := Gr.ext_of hb4
  have HX4 := Lib.hid (Gr.ext_trans HX3.out hx4)
  have HEQ := Lib.hid (HE.out r hr)
  try go_simp
  refine hK.out _ _ (hx4) ?_
  clear hK K
  clear hx4 hb4 hr HX3
  refine Gr.walk_c (fun K hK => ?_)
  go_simp
  refine (HL.out w4).mono ?_
  rintro e w5 ⟨rfl, hx5⟩
  have HX5 := Lib.hid (Gr.ext_trans HX4.out hx5)
  try go_simp
  refine hK.out _ _ (hx5) ?_
  clear hK K
  clear hx5 HX4
  refine Gr.walk_t ?_ (Or.inl ⟨by rfl, ?_⟩) ?_
  rotate_left
  · intro w' hw'
    clear hw'
    go_simp
    try with_reducible rfl
  simp only [Act.put, List.setIfInBounds_toArray, List.set_cons_zero, List.set_cons_succ]
  refine Gr.walk_nil ?_
  go_wp2
  go_ret
  exact ⟨⟨_, rfl, HEQ.out⟩, HX5.out⟩
/-- The closure: what it captured are the block's numbers and the symbols' numbers. -/
theorem can_any (k j p q : Nat) (v : Value) (w : World) (h1 : 1 ≤ k) (h2 : k ≤ 40) (hj : j ≤ 255) (hp : PAt w p k (PM.s k) 2) (hq : w.cell? ⟨q, 0, none⟩ = some v) (hv : Ints w v (SM.iota k)) (hT : Tab w) :
    Calls Tryd.prog 38 #[.int .i64 j, .pointer (some ⟨p, 0, none⟩), .pointer (some ⟨q, 0, none⟩)] w (GoodOut w k j) := by
  have HM : Hid (∀ w, Ints w v (SM.iota k) → Tab w → Calls Tryd.prog 40 #[PV k (PM.s k) 2, .int .i64 j, v] w (MadeRws w (SM.rows k j))) := fun w hv hT => mat_some k j v (SM.iota k) w h1 h2 hj (SM.iota_ok k (by omega)) (by rw [SM.iota_length]; omega) hv hT
  have HS := Lib.hid (fun u w hu => settled_any k j u w h1 h2 hu)
  have HP := Lib.hid hp
  have HV := Lib.hid hv
  have HTB := Lib.hid hT
  have HQ := Lib.hid hq
  obtain ⟨a, cap, rfl, _⟩ := hv.slice
  clear hp hv hT hq
  generalize (SM.iota k).length = n at *
  generalize SM.rows k j = rs at *
  generalize PM.s k = S at *
  go_enter Tryd.func38, Tryd.ntmps38
  go_wp2_with fail
  have HX0 : Hid (w.Extends w.drew) := Gr.ext_drew (Gr.ext_refl w)
  refine Gr.region 6 [(false,0),(false,1),(false,2),(false,3),(true,4),(true,5)] (by kernel_rfl) (by kernel_rfl) (fun d _ _ _ _ h => by cases d <;> exact h) ?_
  simp only [Gr.pick, List.getElem?_cons_zero, List.getElem?_cons_succ, List.drop_succ_cons, List.drop_zero]
  generalize w.drew = w1 at *
  iterate 2
    refine Gr.walk_t ?_ (Or.inl ⟨by rfl, ?_⟩) ?_
    rotate_left
    · intro w' hw'
      obtain ⟨p0, p1, p2⟩ := HP.out.ext (Gr.ext_trans HX0.out hw')
      clear hw'
      go_simp
      try with_reducible rfl
    simp only [Act.put, List.setIfInBounds_toArray, List.set_cons_zero, List.set_cons_succ]
  iterate 2
    refine Gr.walk_t ?_ (Or.inl ⟨by rfl, ?_⟩) ?_
    rotate_left
    · intro w' hw'
      have hq := (Gr.ext_trans HX0.out hw').cell_of HQ.out
      clear hw'
      go_simp
      try with_reducible rfl
    simp only [Act.put, List.setIfInBounds_toArray, List.set_cons_zero, List.set_cons_succ]
  refine Gr.walk_c (fun K hK => ?_)
  go_simp
  refine (HM.out w1 (HV.out.ext HX0.out) (HTB.out.ext HX0.out)).mono ?_
  rintro e w2 ⟨u, rfl, hx2, hu⟩
  have HX2 := Lib.hid (Gr.ext_trans HX0.out hx2)
  have HU := Lib.hid (mats_rows hu)
  try go_simp
  refine hK.out _ _ (hx2) ?_
  clear hK K
  clear hx2 hu HX0 HM
  refine Gr.walk_c (fun K hK => ?_)
  go_simp
  refine (HS.out u w2 HU.out).mono ?_
  rintro e w3 ⟨⟨b, rfl, hb⟩, hx3⟩
  have HX3 := Lib.hid (Gr.ext_trans HX2.out hx3)
  have HB := Lib.hid hb
  try go_simp
  refine hK.out _ _ (hx3) ?_
  clear hK K
  clear hx3 HX2 hb
  refine Gr.walk_nil ?_
  go_wp2
  go_ret
  exact ⟨⟨_, rfl, HB.out⟩, HX3.out⟩
/-- The least number, as both programs answer it. -/
def SeedOut (w : World) (k : Nat) (e : Ending) (w' : World) : Prop := ∃ r er : Nat, e = .returned (.tuple #[.int .i64 r, .int .i64 er]) ∧ SM.SeedIs k r er ∧ w.Extends w'
theorem least_any (k p q : Nat) (w : World)
    (H : ∀ (j : Nat) w', j ≤ 255 → w.Extends w' → Calls Tryd.prog 38 #[.int .i64 j, .pointer (some ⟨p, 0, none⟩), .pointer (some ⟨q, 0, none⟩)] w' (GoodOut w' k j)) :
    Calls Tryd.prog 37 #[.func (.func 38) #[] #[.pointer (some ⟨p, 0, none⟩), .pointer (some ⟨q, 0, none⟩)]] w (SeedOut w k) := by
  have HH := Lib.hid H
  clear H
  go_enter Tryd.func37, Tryd.ntmps37
  go_wp2_with fail
  go_loopw [5] (fun i wr => ∃ j : Nat, j ≤ 256 ∧ i = .int .i64 j ∧ Hid (w.Extends wr) ∧ Hid (∀ i, i < j → ¬ SM.Good k i)) (fun i _ => (256 - intOf i).toNat)
  case atStart => exact ⟨0, by omega, rfl, Lib.hid (Gr.ext_refl _), Lib.hid (fun i hi => absurd hi (Nat.not_lt_zero _))⟩
  case round =>
    obtain ⟨j, hj, rfl, HX, HN⟩ := hrel
    by_cases h1 : j < 256
    · have HC := Lib.hid (HH.out j wr (by omega) HX.out)
      go_wp2_with fail
      refine HC.out.mono ?_
      rintro e w2 ⟨⟨b, rfl, hb⟩, hx2⟩
      have HX2 := Lib.hid (Gr.ext_trans HX.out hx2)
      have HB := Lib.hid hb
      clear hx2 hb HC
      cases b with
      | true =>
        have HP : Hid (SeedOut w k (.returned (.tuple #[.int .i64 (j : Nat), .int .i64 ((0 : Nat) : Int)])) w2) := ⟨j, 0, rfl, .inl ⟨rfl, h1, HB.out.1 rfl, HN.out⟩, HX2.out⟩
        go_wp2
        go_returns
        exact HP.out
      | false =>
        have HN2 : Hid (∀ i, i < j + 1 → ¬ SM.Good k i) := fun i hi => by
          by_cases e : i = j
          · subst e; exact fun hg => absurd (HB.out.2 hg) (by decide)
          · exact HN.out i (by omega)
        go_wp2
        go_roundw
        case rel => exact ⟨j + 1, by omega, by go_num, HX2, HN2⟩
        case measure => simp [intOf]; omega
    · obtain rfl : j = 256 := by omega
      have HP : Hid (SeedOut w k (.returned (.tuple #[.int .i64 ((0 : Nat) : Int), .int .i64 ((5 : Nat) : Int)])) wr) := ⟨0, 5, rfl, .inr ⟨rfl, rfl, HN.out⟩, HX.out⟩
      go_wp2
      go_returns
      exact HP.out
/-- Find of a block's number. -/
theorem find_some (k : Nat) (w : World) (h1 : 1 ≤ k) (h2 : k ≤ 40) (hT : Tab w) :
    Calls Tryd.prog 28 #[.int .i64 k] w (SeedOut w k) := by
  have HO := Lib.hid (fun w => prmOf_good k w h1 h2)
  have HF := Lib.hid (fun w => firstEsis_any k w (by omega))
  have HC : Hid (∀ (j p q : Nat) v w, j ≤ 255 → PAt w p k (PM.s k) 2 → w.cell? ⟨q, 0, none⟩ = some v → Ints w v (SM.iota k) → Tab w → Calls Tryd.prog 38 #[.int .i64 j, .pointer (some ⟨p, 0, none⟩), .pointer (some ⟨q, 0, none⟩)] w (GoodOut w k j)) := fun j p q v w hj hp hq hv hT => can_any k j p q v w h1 h2 hj hp hq hv hT
  have HTB := Lib.hid hT
  clear hT
  generalize PM.s k = S at *
  go_enter Tryd.func28, Tryd.ntmps28
  go_wp2_with fail
  refine (HO.out w).mono ?_
  rintro e w1 ⟨rfl, hx1⟩
  have HX1 := Lib.hid hx1
  clear hx1 HO
  go_wp2_with fail
  generalize hw2 : World.alloc w1 _ = w2
  have hx2 : w1.Extends w2 := by subst hw2; exact prm_ext_alloc _ _
  have hp : PAt w2 w1.heap.size k S 2 := by subst hw2; exact PAt.new w1 74 k S 2
  generalize w1.heap.size = p at hp ⊢
  clear hw2
  have HX2 := Lib.hid (Gr.ext_trans HX1.out hx2)
  have HP2 := Lib.hid hp
  clear hx2 hp HX1
  refine (HF.out w2).mono ?_
  rintro e w3 ⟨v, rfl, hx3, hv3⟩
  have HX3 := Lib.hid (Gr.ext_trans HX2.out hx3)
  have HP3 := Lib.hid (HP2.out.ext hx3)
  have HV3 := Lib.hid hv3
  obtain ⟨a, cap, rfl, _⟩ := hv3.slice
  clear hx3 hv3 HX2 HP2 HF
  go_wp2_with fail
  generalize hw4 : World.alloc w3 _ = w4
  have hx4 : w3.Extends w4 := by subst hw4; exact ext_alloc _ _
  have hq : w4.cell? ⟨w3.heap.size, 0, none⟩ = some (.slice a (SM.iota k).length cap) := by subst hw4; rw [cell_of_row _ _ _ _ _ _ (heap_alloc_new w3 _)]; rfl
  generalize w3.heap.size = q at hq ⊢
  clear hw4
  have HX4 := Lib.hid (Gr.ext_trans HX3.out hx4)
  have HP4 := Lib.hid (HP3.out.ext hx4)
  have HV4 := Lib.hid (HV3.out.ext hx4)
  have HQ4 := Lib.hid hq
  clear hx4 HX3 HP3 HV3 hq
  refine (least_any k p q w4 (fun j w' hj hx => HC.out j p q _ w' hj (HP4.out.ext hx) (hx.cell_of HQ4.out) (HV4.out.ext hx) (HTB.out.ext (Gr.ext_trans HX4.out hx)))).mono ?_
  rintro e w5 ⟨r, er, rfl, hr, hx5⟩
  have HP : Hid (SeedOut w k (.returned (.tuple #[.int .i64 r, .int .i64 er])) w5) := ⟨r, er, rfl, hr, Gr.ext_trans HX4.out hx5⟩
  clear hr hx5
  go_wp2
  go_returns
  exact HP.out
end Go.Proofs.YtpfmmfapdcbnkaaDoor
namespace Go.Proofs.YtpfmmfapdcbnkaaDoor
set_option maxRecDepth 20000
open Go.RowKit Go.Deep
set_option linter.unusedVariables false
theorem Rws.srcs_old {P : Program} {w0 w : World} {v : Value} {l : List (List Nat)} (h : Rws w0 v l) (hx : w0.Extends w) {tx e' : TypeId} (hk : P.underlying tx = some (.slice e')) :
    ∃ vs, Src P 1 tx v l.length vs w ∧ ∀ j, j < l.length → ∃ u, vs[j]? = some u ∧ RowOk w w0.heap.size u (l.getD j []) := by
  rcases h with ⟨rfl, a, cap, rfl⟩ | ⟨b, off, cap, rfl, h1, h2, h3, h4⟩
  · refine ⟨[], ?_, fun j hj => absurd hj (Nat.not_lt_zero _)⟩
    cases a with
    | none => exact Src.ofNil w hk cap
    | some a => exact Src.ofSlice w hk a 0 cap [] rfl (by simp) (by simp)
  · obtain ⟨vs, hl, hv⟩ := list_of h4
    refine ⟨vs, Src.ofSlice w hk ⟨b, off, none⟩ l.length cap vs (by rw [hl, Nat.mul_one]) (fun j u hu => ?_) (fun u hu => ?_), fun j hj => ?_⟩
    · have hj : j < l.length := by
        rcases Nat.lt_or_ge j l.length with h | h
        · exact h
        · rw [List.getElem?_eq_none (by omega)] at hu; cases hu
      obtain ⟨u', h5, h6, _⟩ := hv j hj
      rw [hu] at h5; cases h5
      rw [Addr.add_mid]; exact hx.cell_of h6
    · obtain ⟨j, hj, rfl⟩ := List.mem_iff_getElem.1 hu
      obtain ⟨u', h5, _, h7⟩ := hv j (by omega)
      rw [List.getElem?_eq_getElem hj] at h5
      rw [Option.some.inj h5]; exact u8s_one h7
    · obtain ⟨u, h5, _, h7⟩ := hv j hj
      exact ⟨u, h5, (RowOk.old h7 (Nat.le_refl _)).ext hx⟩
theorem nil_ok (w : World) (B : Nat) : RowOk w B (.slice none 0 0) [] := ⟨nil_u8s _ _ _, .inl rfl⟩
/-- A slice of rows that are nil, just made. -/
theorem nils_mats (w : World) (B R : Nat) (T : TypeId) (n : Nat) (hn : n ≤ 1000) (hB : B ≤ w.heap.size) : Mats (w.alloc (.cells (madeCells #[.slice none 0 0] n) T)) B R T (.slice (some ⟨w.heap.size, 0, none⟩) n n) n (List.replicate n []) := by
  obtain ⟨c, hc, hs, hi⟩ := World.rowIs_made w (.slice none 0 0) n T
  refine ⟨List.replicate n (.slice none 0 0), ⟨by simp, .inr ⟨w.heap.size, n, c, rfl, hB, hc, Nat.le_refl _, by unfold maxLen; omega, by rw [hs, Nat.mul_one], ?_⟩⟩, fun j hj => ⟨.slice none 0 0, by simp [hj], ?_⟩⟩
  · rw [Nat.mul_one]
    apply List.ext_getElem?
    intro i
    by_cases hix : i < n
    · rw [List.getElem?_take, if_pos hix, Array.getElem?_toList, hi i hix]
      simp [hix]
    · rw [List.getElem?_take, if_neg hix, List.getElem?_eq_none (by simp; omega)]
  · rw [show (List.replicate n ([] : List Nat)).getD j [] = [] by simp [hj]]
    exact nil_ok _ _
end Go.Proofs.YtpfmmfapdcbnkaaDoor
namespace Go.Proofs.YtpfmmfapdcbnkaaDoor
set_option maxRecDepth 20000
open Go.RowKit Go.Deep
set_option linter.unusedVariables false
theorem allOf_any (size : Int) (v : Value) (l : List (List Nat)) (w : World) (hv : Rws w v l) :
    Calls Tryd.prog 34 #[.int .i64 size, v] w (Says (AllB size l) w) := by
  have hm := hv.len
  obtain ⟨a, cap, rfl, _⟩ := hv.slice
  have HV := Lib.hid hv.at.2
  have HALL : Hid ((∀ k, k < l.length → ((l.getD k []).length : Int) = size) ↔ AllB size l) := Iff.rfl
  clear hv
  generalize hn : l.length = n at *
  have HN := Lib.hid hn; clear hn
  unfold maxLen at hm
  go_enter Tryd.func34, Tryd.ntmps34
  go_wp2_with fail
  go_loopw [9] (fun i wr => ∃ k : Nat, k ≤ n ∧ i = .int .i64 k ∧ Hid (w.Extends wr) ∧ Hid (∀ i, i < k → ((l.getD i []).length : Int) = size)) (fun i _ => (n - intOf i).toNat)
  case atStart => exact ⟨0, by omega, rfl, Lib.hid (Gr.ext_refl _), Lib.hid (fun i hi => absurd hi (Nat.not_lt_zero _))⟩
  case round =>
    obtain ⟨k, hk, rfl, HX, HK⟩ := hrel
    by_cases h1 : k < n
    · obtain ⟨b1, o1, rfl, hb1, hc1⟩ := HV.out (by omega)
      obtain ⟨ra, rc, hc3, hr0⟩ := hc1 k h1
      have hc2 := HX.out.cell_of hc3
      clear hc1 hc3 hr0
      have HK2 : Hid (((l.getD k []).length : Int) = size → ∀ i, i < k + 1 → ((l.getD i []).length : Int) = size) := fun h2 i hi => by
        by_cases e : i = k
        · subst e; exact h2
        · exact HK.out i (by omega)
      have HK3 : Hid (AllB size l → ((l.getD k []).length : Int) = size) := fun h => h k (by rw [HN.out]; exact h1)
      generalize (l.getD k []).length = r at *
      by_cases h2 : (r : Int) = size
      · have hne : ((r : Int) != size) = false := by simpa using h2
        have HK4 := Lib.hid (HK2.out h2)
        clear h2 HK2 HK3
        go_wp2
        go_roundw
        case rel => exact ⟨k + 1, by omega, by go_num, HX, HK4⟩
        case measure => simp [intOf]; omega
      · have hne : ((r : Int) != size) = true := by simpa using h2
        have HP : Hid (Says (AllB size l) w (.returned (.bool false)) wr) := Says.no (fun h => h2 (HK3.out h)) HX.out
        clear h2 HK2 HK3
        go_wp2
        go_ret
        exact HP.out
    · obtain rfl : k = n := by omega
      have HP : Hid (Says (AllB size l) w (.returned (.bool true)) wr) := Says.yes (fun i hi => HK.out i (by rw [← HN.out]; exact hi)) HX.out
      go_wp2
      go_ret
      exact HP.out
theorem mkRowList (k : Nat) (hk : k ≤ 1000) (w : World) : (Instr.makeSlice 54 (.int .i64 (k : Int)) (.int .i64 (k : Int))).run Tryd.prog w = .ok (.slice (some ⟨w.heap.size, 0, none⟩) k k) (w.alloc (.cells (madeCells #[.slice none 0 0] k) 67)) :=
  run_make_row' (P := Tryd.prog) 54 67 (.slice none 0 0) 24 Tryd.underlying54 rowinfo rfl .i64 .i64 k (by omega) (by omega) w
/-- What partsOf answers. -/
def PartsOut (w : World) (k j size : Nat) (src : List (List Nat)) (e : Ending) (w' : World) : Prop :=
  ∃ res u, SolveRes (PM.l k) size (· < PM.l k) (BM.F k j size src) res ∧ e = .returned (.tuple #[u, .int .i64 (errOf res : Nat)]) ∧ w.Extends w' ∧ Rws w' u (res.getD [])
theorem solve_of (k j size : Nat) (u v : Value) (src : List (List Nat)) (w : World) (h1 : 1 ≤ k) (h2 : k ≤ 40) (hs1 : 1 ≤ size) (hs2 : size ≤ 64) (hl : src.length = k) (hu : Rws w u (SM.rows k j)) (hv : Rws w v (BM.mixed k src)) :
    Calls Tryd.prog 41 #[.int .i64 (PM.l k), .int .i64 size, u, v] w (PartsOut w k j size src) := by
  have hlk := PM.l_le k h2
  have hlen : (SM.rows k j).length = PM.l k := BM.rows_l k j
  refine (solve_good (PM.l k) size u v (SM.rows k j) (BM.mixed k src) w hu hv (by unfold PM.l; omega) (by omega) hs1 (by omega) (by rw [BM.mixed_length, hl, hlen]; unfold PM.l PM.w; omega)).mono fun e w' ⟨res, x, hres, he, hb, hr⟩ => ?_
  rw [hlen] at hres
  exact ⟨res, x, hres, he, Gr.ext_of hb, hr⟩
set_option maxHeartbeats 1000000 in
theorem partsOf_any (k j size : Nat) (v : Value) (src : List (List Nat)) (w : World) (h1 : 1 ≤ k) (h2 : k ≤ 40) (hj : j ≤ 255) (hs1 : 1 ≤ size) (hs2 : size ≤ 64) (hl : src.length = k) (hv : Rws w v src) (hT : Tab w) :
    Calls Tryd.prog 35 #[PV k (PM.s k) 2, .int .i64 j, .int .i64 size, v] w (PartsOut w k j size src) := by
  have hs7 := PM.s_le k h2
  have hL := prmL_any k (PM.s k) 2
  have hlk : (k : Int) + (PM.s k : Int) + 2 = (PM.l k : Int) := by unfold PM.l PM.w; omega
  rw [hlk] at hL
  have hl49 := PM.l_le k h2
  have HL := Lib.hid (fun w => hL w (by omega) (by omega))
  have HF := Lib.hid (fun w => firstEsis_any k w (by omega))
  have HM : Hid (∀ w v, Ints w v (SM.iota k) → Tab w → Calls Tryd.prog 40 #[PV k (PM.s k) 2, .int .i64 j, v] w (MadeRws w (SM.rows k j))) := fun w v hv hT => mat_some k j v (SM.iota k) w h1 h2 hj (SM.iota_ok k (by omega)) (by rw [SM.iota_length]; omega) hv hT
  have HS : Hid (∀ u v w, Rws w u (SM.rows k j) → Rws w v (BM.mixed k src) → Calls Tryd.prog 41 #[.int .i64 (PM.l k), .int .i64 size, u, v] w (PartsOut w k j size src)) := fun u v w hu hv => solve_of k j size u v src w h1 h2 hs1 hs2 hl hu hv
  have HO : Hid (∀ (w w' : World) e w0, w0.Extends w → PartsOut w k j size src e w' → PartsOut w0 k j size src e w') := fun w w' e w0 hx ⟨res, u, a, b, c, d⟩ => ⟨res, u, a, b, Gr.ext_trans hx c, d⟩
  have HOUT : Hid (∀ (w w' : World) e, PartsOut w k j size src e w' → ∃ u r, e = .returned (.tuple #[u, .int .i64 r])) := fun w w' e ⟨res, u, a, b, c, d⟩ => ⟨u, _, b⟩
  have HMX : Hid (List.replicate (PM.s k + 2) [] ++ src = BM.mixed k src) := rfl
  have HNM := Lib.hid (fun w => nils_mats w w.heap.size w.heap.size 67 (PM.s k + 2) (by omega) (Nat.le_refl _))
  have hmk := fun w => mkRowList (PM.s k + 2) (by omega) w
  rw [show ((PM.s k + 2 : Nat) : Int) = (PM.s k : Int) + 2 by omega] at hmk
  have HTB := Lib.hid hT
  have HV := Lib.hid hv
  have HSL := Lib.hid hl
  obtain ⟨a, cap, rfl, _⟩ := hv.slice
  clear hv hT hL hlk
  rw [hl]
  clear hl
  obtain ⟨i1, hi', hz0', hz1', hz2'⟩ := info_parts rowinfo
  have HI' := Lib.hid hi'; clear hi'
  have HZ0' := Lib.hid hz0'; clear hz0'
  have HZ1' := Lib.hid hz1'; clear hz1'
  have HZ2' := Lib.hid hz2'; clear hz2'
  generalize SM.rows k j = rs at *
  generalize BM.mixed k src = mx at *
  generalize PM.l k = L at *
  generalize PM.s k = S at *
  go_enter Tryd.func35, Tryd.ntmps35
  go_upto_region 1 with fail
  generalize hw1 : World.alloc w _ = w1
  have hx1 : w.Extends w1 := by subst hw1; exact prm_ext_alloc _ _
  have hp : PAt w1 w.heap.size k S 2 := by subst hw1; exact PAt.new w 74 k S 2
  generalize w.heap.size = b at hp ⊢
  clear hw1
  have HX1 := Lib.hid hx1
  have HP1 := Lib.hid hp
  clear hx1 hp
  obtain ⟨p0, p1, p2⟩ := HP1.out
  obtain ⟨vs, hown, hrows⟩ := HNM.out w1
  have hb1 := HX1.out.size
  have HOWN := Lib.hid hown
  have HROWS := Lib.hid hrows
  obtain ⟨us, hsrc, hus⟩ := HV.out.srcs_old (Gr.ext_trans HX1.out (ext_alloc w1 (.cells (madeCells #[.slice none 0 0] (S + 2)) 67))) (P := Tryd.prog) (tx := 54) Tryd.underlying54
  rw [HSL.out] at hsrc hus
  have HSRC := Lib.hid hsrc
  have HUS := Lib.hid hus
  clear hown hrows hsrc hus HNM
  go_wp2_with (at_builtin; refine wpList_append_own_src _ rfl _ _ 54 54 rfl w1.heap.size 67 i1 (.slice none 0 0) 1 24 Tryd.underlying54 HI'.out HZ0'.out HZ1'.out HZ2'.out rfl _ _ _ rfl HOWN.out _ k us rfl HSRC.out (by unfold maxLen; omega) (by omega) (by simp) ?_)
  intro v' w3 ho3 hg3 _
  have HX13 : Hid (w1.Extends w3) := Gr.ext_of (((Below.refl w1.heap.size w1).alloc (Nat.le_refl _) _).grown hg3 (by simp) (fun g hg => by simp only [Value.ownBlock, Option.some.injEq] at hg; omega))
  have HX3 := Lib.hid (Gr.ext_trans HX1.out HX13.out)
  have HP3 := Lib.hid (HP1.out.ext HX13.out)
  have HR3 : Hid (Rws w3 v' mx) := by
    have h := Mats.grow (Nat.le_refl _) (by decide) (by simp) HSL.out.symm HOWN.out HROWS.out (fun j hj => by obtain ⟨u, h3, h4⟩ := HUS.out j hj; exact ⟨u, h3, h4.mono hb1⟩) hg3 ho3
    rw [HMX.out] at h
    exact h.rws (by rw [← HMX.out, List.length_append, List.length_replicate, HSL.out])
  clear ho3 hg3 HOWN HROWS HUS HSRC HX1 HP1 HX13 p0 p1 p2 hmk
  go_wp2_with fail
  have HX4 := Lib.hid (Gr.ext_drew HX3.out)
  have HP4 := Lib.hid (HP3.out.ext (Gr.ext_drew (Gr.ext_refl w3)))
  have HR4 := Lib.hid (HR3.out.ext (Gr.ext_drew (Gr.ext_refl w3)))
  clear HX3 HP3 HR3
  refine Gr.region 13 [(false,0),(false,2),(false,3),(false,4),(false,5),(false,6),(false,9),(true,1),(true,7),(true,8),(true,10),(false,11),(false,12)] (by kernel_rfl) (by kernel_rfl) (fun d _ _ _ _ h => by cases d <;> exact h) ?_
  simp only [Gr.pick, List.getElem?_cons_zero, List.getElem?_cons_succ, List.drop_succ_cons, List.drop_zero]
  generalize w3.drew = w4 at *
  iterate 7
    refine Gr.walk_t ?_ (Or.inl ⟨by rfl, ?_⟩) ?_
    rotate_left
    · intro w' hw'
      obtain ⟨p0, p1, p2⟩ := HP4.out.ext hw'
      clear hw'
      go_simp
      try with_reducible rfl
    simp only [Act.put, List.setIfInBounds_toArray, List.set_cons_zero, List.set_cons_succ]
  refine Gr.walk_c (fun K hK => ?_)
  go_simp
  refine (HL.out w4).mono ?_
  rintro e w5 ⟨rfl, hx5⟩
  have HX5 := Lib.hid (Gr.ext_trans HX4.out hx5)
  have HR5 := Lib.hid (HR4.out.ext hx5)
  try go_simp
  refine hK.out _ _ (hx5) ?_
  clear hK K
  clear hx5 HX4 HR4 HP4
  refine Gr.walk_c (fun K hK => ?_)
  go_simp
  refine (HF.out w5).mono ?_
  rintro e w6 ⟨vi, rfl, hx6, hvi⟩
  have HX6 := Lib.hid (Gr.ext_trans HX5.out hx6)
  have HR6 := Lib.hid (HR5.out.ext hx6)
  have HVI := Lib.hid hvi
  try go_simp
  refine hK.out _ _ (hx6) ?_
  clear hK K
  clear hx6 HX5 HR5 hvi
  refine Gr.walk_c (fun K hK => ?_)
  go_simp
  refine (HM.out w6 vi HVI.out (HTB.out.ext HX6.out)).mono ?_
  rintro e w7 ⟨u7, rfl, hx7, hu7⟩
  have HX7 := Lib.hid (Gr.ext_trans HX6.out hx7)
  have HR7 := Lib.hid (HR6.out.ext hx7)
  have HU7 := Lib.hid (mats_rows hu7)
  try go_simp
  refine hK.out _ _ (hx7) ?_
  clear hK K
  clear hx7 HX6 HR6 hu7 HVI
  refine Gr.walk_c (fun K hK => ?_)
  go_simp
  refine (HS.out u7 v' w7 HU7.out HR7.out).mono ?_
  rintro e w8 ⟨res, x8, hres, rfl, hx8, hr8⟩
  have HP : Hid (PartsOut w k j size src (.returned (.tuple #[x8, .int .i64 (errOf res : Nat)])) w8) := ⟨res, x8, hres, rfl, Gr.ext_trans HX7.out hx8, hr8⟩
  try go_simp
  refine hK.out _ _ (hx8) ?_
  clear hK K
  clear hx8 HX7 HR7 HU7 hres hr8
  iterate 2
    refine Gr.walk_t ?_ (Or.inl ⟨by rfl, ?_⟩) ?_
    rotate_left
    · intro w' hw'
      clear hw'
      go_simp
      try with_reducible rfl
    simp only [Act.put, List.setIfInBounds_toArray, List.set_cons_zero, List.set_cons_succ]
  refine Gr.walk_nil ?_
  go_wp2
  go_returns
  exact HP.out
end Go.Proofs.YtpfmmfapdcbnkaaDoor
namespace Go.Proofs.YtpfmmfapdcbnkaaDoor
set_option maxRecDepth 20000
open Go.RowKit Go.Deep
set_option linter.unusedVariables false
/-- A block laid at b; v: its parts. -/
def BAt (w : World) (b : Nat) (k s h j size : Int) (v : Value) : Prop :=
  w.cell? ⟨b, 0, none⟩ = some (.int .i64 k) ∧ w.cell? ⟨b, 1, none⟩ = some (.int .i64 s) ∧ w.cell? ⟨b, 2, none⟩ = some (.int .i64 h) ∧
  w.cell? ⟨b, 3, none⟩ = some (.int .i64 j) ∧ w.cell? ⟨b, 4, none⟩ = some (.int .i64 size) ∧ w.cell? ⟨b, 5, none⟩ = some v
theorem BAt.ext {w w' : World} {b : Nat} {k s h j size : Int} {v : Value} (hp : BAt w b k s h j size v) (hx : w.Extends w') : BAt w' b k s h j size v :=
  ⟨hx.cell_of hp.1, hx.cell_of hp.2.1, hx.cell_of hp.2.2.1, hx.cell_of hp.2.2.2.1, hx.cell_of hp.2.2.2.2.1, hx.cell_of hp.2.2.2.2.2⟩
theorem BAt.new (w : World) (T : TypeId) (k s h j size : Int) (v : Value) : BAt (w.alloc (.cells #[.int .i64 k, .int .i64 s, .int .i64 h, .int .i64 j, .int .i64 size, v] T)) w.heap.size k s h j size v := by
  have h0 := heap_alloc_new w (.cells #[.int .i64 k, .int .i64 s, .int .i64 h, .int .i64 j, .int .i64 size, v] T)
  exact ⟨by rw [cell_of_row _ _ _ _ _ _ h0]; rfl, by rw [cell_of_row _ _ _ _ _ _ h0]; rfl, by rw [cell_of_row _ _ _ _ _ _ h0]; rfl, by rw [cell_of_row _ _ _ _ _ _ h0]; rfl, by rw [cell_of_row _ _ _ _ _ _ h0]; rfl, by rw [cell_of_row _ _ _ _ _ _ h0]; rfl⟩
/-- No block, and why. -/
def NoBlock (w : World) (err : Int) (e : Ending) (w' : World) : Prop := e = .returned (.tuple #[.pointer none, .int .i64 err]) ∧ w.Extends w'
/-- A block of the call's own. -/
def BNew (w : World) (k j size : Nat) (c : List (List Nat)) (e : Ending) (w' : World) : Prop :=
  ∃ b v, e = .returned (.tuple #[.pointer (some ⟨b, 0, none⟩), .int .i64 0]) ∧ w.Extends w' ∧ BAt w' b k (PM.s k) 2 j size v ∧ Rws w' v c
theorem seed5 {k r er : Nat} (h : SM.SeedIs k r er) : er = 0 ∨ er = 5 := by
  rcases h with ⟨h, _⟩ | ⟨h, _⟩
  · exact .inl h
  · exact .inr h
set_option maxHeartbeats 1000000 in
theorem new_none (size : Int) (v : Value) (src : List (List Nat)) (k : Nat) (w : World) (h1 : 1 ≤ size) (h2 : size ≤ 64) (hk : src.length = k) (k1 : 1 ≤ k) (k2 : k ≤ 40) (hv : Rws w v src) (hn : AllB size src) (hT : Tab w) (r : Nat) (hs : SM.SeedIs k r 5) :
    Calls Tryd.prog 21 #[.int .i64 size, v] w (NoBlock w 5) := by
  have HO := Lib.hid (fun w => prmOf_good k w k1 k2)
  have HA := Lib.hid (fun v w hv => allOf_any size v src w hv)
  have HF : Hid (∀ w, Tab w → Calls Tryd.prog 28 #[.int .i64 k] w fun e w' => e = .returned (.tuple #[.int .i64 r, .int .i64 (5 : Nat)]) ∧ w.Extends w') := fun w hT =>
    (find_some k w k1 k2 hT).mono fun e w' ⟨r', er', he, hr', hx⟩ => by
      obtain ⟨rfl, rfl⟩ := hs.uniq hr'
      exact ⟨he, hx⟩
  have HT := Lib.hid hT
  have HV := Lib.hid hv
  have HN := Lib.hid hn
  obtain ⟨a, cap, rfl, _⟩ := hv.slice
  rw [hk] at HV ⊢
  clear hk hv hn hT hs
  generalize PM.s k = S at *
  go_enter Tryd.func21, Tryd.ntmps21
  go_wp2_with fail
  refine (HO.out w).mono ?_
  rintro e w1 ⟨rfl, hx1⟩
  have HX1 := Lib.hid hx1
  clear hx1 HO
  go_wp2_with fail
  generalize hw2 : World.alloc w1 _ = w2
  have hx2 : w1.Extends w2 := by subst hw2; exact prm_ext_alloc _ _
  have hp : PAt w2 w1.heap.size k S 2 := by subst hw2; exact PAt.new w1 74 k S 2
  generalize w1.heap.size = p at hp ⊢
  clear hw2
  have HX2 := Lib.hid (Gr.ext_trans HX1.out hx2)
  have HP2 := Lib.hid hp
  clear hx2 hp HX1
  refine (HA.out _ w2 (HV.out.ext HX2.out)).mono ?_
  rintro e w3 ⟨⟨b, rfl, hb⟩, hx3⟩
  cases b with
  | false => exact absurd (hb.2 HN.out) (by decide)
  | true =>
    have HX3 := Lib.hid (Gr.ext_trans HX2.out hx3)
    have HP3 := Lib.hid (HP2.out.ext hx3)
    clear hb hx3 HX2 HP2
    obtain ⟨p0, p1, p2⟩ := HP3.out
    go_wp2_with fail
    refine (HF.out w3 (HT.out.ext HX3.out)).mono ?_
    rintro e w4 ⟨rfl, hx4⟩
    have HP : Hid (NoBlock w 5 (.returned (.tuple #[.pointer none, .int .i64 5])) w4) := ⟨rfl, Gr.ext_trans HX3.out hx4⟩
    clear hx4 p0 p1 p2
    go_wp2
    go_returns
    exact HP.out
set_option maxHeartbeats 1000000 in
theorem new_some (size : Nat) (v : Value) (src : List (List Nat)) (k : Nat) (w : World) (h1 : 1 ≤ size) (h2 : size ≤ 64) (hk : src.length = k) (k1 : 1 ≤ k) (k2 : k ≤ 40) (hv : Rws w v src) (hn : AllB size src) (hT : Tab w) (j : Nat) (hs : SM.SeedIs k j 0) (c : List (List Nat)) (hc : BM.PartsIs k j size src c) :
    Calls Tryd.prog 21 #[.int .i64 size, v] w (BNew w k j size c) := by
  have hj := hs.lt
  have HO := Lib.hid (fun w => prmOf_good k w k1 k2)
  have HA := Lib.hid (fun v w hv => allOf_any size v src w hv)
  have HF : Hid (∀ w, Tab w → Calls Tryd.prog 28 #[.int .i64 k] w fun e w' => e = .returned (.tuple #[.int .i64 j, .int .i64 (0 : Nat)]) ∧ w.Extends w') := fun w hT =>
    (find_some k w k1 k2 hT).mono fun e w' ⟨r', er', he, hr', hx⟩ => by
      obtain ⟨rfl, rfl⟩ := hs.uniq hr'
      exact ⟨he, hx⟩
  have hg : SM.Good k j := by
    rcases hs with ⟨_, _, h, _⟩ | ⟨h, _⟩
    · exact h
    · cases h
  have HPT : Hid (∀ v w, Rws w v src → Tab w → Calls Tryd.prog 35 #[PV k (PM.s k) 2, .int .i64 j, .int .i64 size, v] w fun e w' => ∃ u, e = .returned (.tuple #[u, .int .i64 ((0 : Nat) : Int)]) ∧ w.Extends w' ∧ Rws w' u c) := fun v w hv hT =>
    (partsOf_any k j size v src w k1 k2 (by omega) h1 h2 hk hv hT).mono fun e w' ⟨res, u, hres, he, hx, hr⟩ => by
      obtain ⟨c', rfl, hc'⟩ := BM.res_some hg hv.all_lt hres
      rw [BM.PartsIs.uniq hv.all_lt hc hc']
      exact ⟨u, he, hx, hr⟩
  have HOUT : Hid (∀ b v (w' : World), w.Extends w' → BAt w' b k (PM.s k) 2 j size v → Rws w' v c → BNew w k j size c (.returned (.tuple #[.pointer (some ⟨b, 0, none⟩), .int .i64 0])) w') := fun b v w' hx hb hr => ⟨b, v, rfl, hx, hb, hr⟩
  have HT := Lib.hid hT
  have HV := Lib.hid hv
  have HN := Lib.hid hn
  obtain ⟨a, cap, rfl, _⟩ := hv.slice
  rw [hk] at HV ⊢
  clear hk hv hn hT hs hc hg
  generalize PM.s k = S at *
  go_enter Tryd.func21, Tryd.ntmps21
  go_wp2_with fail
  refine (HO.out w).mono ?_
  rintro e w1 ⟨rfl, hx1⟩
  have HX1 := Lib.hid hx1
  clear hx1 HO
  go_wp2_with fail
  generalize hw2 : World.alloc w1 _ = w2
  have hx2 : w1.Extends w2 := by subst hw2; exact prm_ext_alloc _ _
  have hp : PAt w2 w1.heap.size k S 2 := by subst hw2; exact PAt.new w1 74 k S 2
  generalize w1.heap.size = p at hp ⊢
  clear hw2
  have HX2 := Lib.hid (Gr.ext_trans HX1.out hx2)
  have HP2 := Lib.hid hp
  clear hx2 hp HX1
  refine (HA.out _ w2 (HV.out.ext HX2.out)).mono ?_
  rintro e w3 ⟨⟨b, rfl, hb⟩, hx3⟩
  cases b with
  | false => exact absurd (hb.2 HN.out) (by decide)
  | true =>
    have HX3 := Lib.hid (Gr.ext_trans HX2.out hx3)
    have HP3 := Lib.hid (HP2.out.ext hx3)
    clear hb hx3 HX2 HP2
    obtain ⟨p0, p1, p2⟩ := HP3.out
    go_wp2_with fail
    refine (HF.out w3 (HT.out.ext HX3.out)).mono ?_
    rintro e w4 ⟨rfl, hx4⟩
    have HX4 := Lib.hid (Gr.ext_trans HX3.out hx4)
    have HP4 := Lib.hid (HP3.out.ext hx4)
    clear hx4 HX3 HP3 p0 p1 p2
    obtain ⟨p0, p1, p2⟩ := HP4.out
    go_wp2_with fail
    refine (HPT.out _ w4 (HV.out.ext HX4.out) (HT.out.ext HX4.out)).mono ?_
    rintro e w5 ⟨u, rfl, hx5, hu⟩
    have HX5 := Lib.hid (Gr.ext_trans HX4.out hx5)
    have HP5 := Lib.hid (HP4.out.ext hx5)
    have HU5 := Lib.hid hu
    obtain ⟨ua, uc, rfl, _⟩ := hu.slice
    clear hx5 HX4 HP4 p0 p1 p2 hu
    obtain ⟨p0, p1, p2⟩ := HP5.out
    go_wp2_with fail
    generalize hw6 : World.alloc w5 _ = w6
    have hx6 : w5.Extends w6 := by subst hw6; exact prm_ext_alloc _ _
    have HP := Lib.hid (HOUT.out w5.heap.size _ w6 (Gr.ext_trans HX5.out hx6) (by subst hw6; exact BAt.new w5 89 k S 2 j size _) (HU5.out.ext hx6))
    clear hw6 hx6
    go_returns
    exact HP.out
end Go.Proofs.YtpfmmfapdcbnkaaDoor
namespace Go.Proofs.YtpfmmfapdcbnkaaDoor
set_option maxRecDepth 20000
open Go.RowKit Go.Deep
set_option linter.unusedVariables false
theorem drop_size (k s h j size esi : Int) (v : Value) (w : World) (hs : size < 1 ∨ 64 < size) :
    Calls Tryd.prog 36 #[PV k s h, .int .i64 j, .int .i64 size, v, .int .i64 esi] w fun e w' => e = .returned (.slice none 0 0) ∧ w.Extends w' := by
  rcases hs with hs | hs
  all_goals
    go_enter Tryd.func36, Tryd.ntmps36
    go_wp2
    go_ret
    exact ⟨rfl, prm_ext_alloc _ _⟩
theorem drop_len (k s h j size esi : Int) (a : Option Addr) (n cap : Nat) (w : World) (h1 : 1 ≤ size) (h2 : size ≤ 64) (hb : -9223372036854775808 ≤ k + s ∧ k + s ≤ 9223372036854775807) (hb2 : -9223372036854775808 ≤ k + s + h ∧ k + s + h ≤ 9223372036854775807) (hn : (n : Int) ≠ k + s + h) :
    Calls Tryd.prog 36 #[PV k s h, .int .i64 j, .int .i64 size, .slice a n cap, .int .i64 esi] w fun e w' => e = .returned (.slice none 0 0) ∧ w.Extends w' := by
  have HL := Lib.hid (fun w => prmL_any k s h w hb hb2)
  generalize k + s + h = L at *
  have hne : ((n : Int) != L) = true := by simpa using hn
  clear hb hb2 hn
  go_enter Tryd.func36, Tryd.ntmps36
  go_wp2_with fail
  generalize hw1 : World.alloc w _ = w1
  have hx1 : w.Extends w1 := by subst hw1; exact prm_ext_alloc _ _
  have hp : PAt w1 w.heap.size k s h := by subst hw1; exact PAt.new w 74 k s h
  generalize w.heap.size = b at hp ⊢
  clear hw1
  have HX1 := Lib.hid hx1
  have HP1 := Lib.hid hp
  clear hx1 hp
  obtain ⟨p0, p1, p2⟩ := HP1.out
  go_wp2_with fail
  refine (HL.out w1).mono ?_
  rintro e w2 ⟨rfl, hx2⟩
  have HX2 := Lib.hid (Gr.ext_trans HX1.out hx2)
  clear hx2 HX1 HP1 p0 p1 p2
  go_wp2
  go_ret
  exact ⟨rfl, HX2.out⟩
theorem drop_fit (k s h j size esi : Int) (a : Option Addr) (n cap : Nat) (w : World) (h1 : 1 ≤ size) (h2 : size ≤ 64) (hb : -9223372036854775808 ≤ k + s ∧ k + s ≤ 9223372036854775807) (hn : k + s + h = (n : Int)) (hm : n ≤ maxLen) (hf : ¬ Fits k s h j esi) :
    Calls Tryd.prog 36 #[PV k s h, .int .i64 j, .int .i64 size, .slice a n cap, .int .i64 esi] w fun e w' => e = .returned (.slice none 0 0) ∧ w.Extends w' := by
  unfold maxLen at hm
  have HL := Lib.hid (fun w => prmL_any k s h w hb (by omega))
  rw [hn] at HL
  have HN := Lib.hid (fun w => parts_none k s h j esi w hf)
  clear hb hn hf
  go_enter Tryd.func36, Tryd.ntmps36
  go_wp2_with fail
  generalize hw1 : World.alloc w _ = w1
  have hx1 : w.Extends w1 := by subst hw1; exact prm_ext_alloc _ _
  have hp : PAt w1 w.heap.size k s h := by subst hw1; exact PAt.new w 74 k s h
  generalize w.heap.size = b at hp ⊢
  clear hw1
  have HX1 := Lib.hid hx1
  have HP1 := Lib.hid hp
  clear hx1 hp
  obtain ⟨p0, p1, p2⟩ := HP1.out
  go_wp2_with fail
  refine (HL.out w1).mono ?_
  rintro e w2 ⟨rfl, hx2⟩
  have HX2 := Lib.hid (Gr.ext_trans HX1.out hx2)
  have HP2 := Lib.hid (HP1.out.ext hx2)
  clear hx2 HX1 HP1 p0 p1 p2
  obtain ⟨p0, p1, p2⟩ := HP2.out
  go_wp2_with fail
  refine (HN.out w2).mono ?_
  rintro e w3 ⟨rfl, hx3⟩
  have HX3 := Lib.hid (Gr.ext_trans HX2.out hx3)
  clear hx3 HX2 HP2 p0 p1 p2
  go_wp2
  go_ret
  exact ⟨rfl, HX3.out⟩
set_option maxHeartbeats 1000000 in
set_option maxRecDepth 100000 in
theorem drop_some (k j size esi : Nat) (v : Value) (c : List (List Nat)) (w : World) (h1 : 1 ≤ k) (h2 : k ≤ 40) (hj : j ≤ 255) (he : esi < 16777216) (hs1 : 1 ≤ size) (hs2 : size ≤ 64) (hl : c.length = PM.l k) (hv : Rws w v c) (hT : Tab w) :
    Calls Tryd.prog 36 #[PV k (PM.s k) 2, .int .i64 j, .int .i64 size, v, .int .i64 esi] w (MadeRow w (DM.drop k j size c esi)) := by
  have HS := Lib.hid (fun w hT => parts_some k j esi w h1 h2 hj he hT)
  change Hid (∀ (w : World), Tab w → Calls _ _ _ w (MadeInts w (TM.parts k j esi))) at HS
  have hs := PM.s_le k h2
  have hlk : (PM.l k : Int) = k + PM.s k + 2 := by unfold PM.l PM.w; omega
  have hl2 := PM.l_le k h2
  have hL := prmL_any k (PM.s k) 2
  rw [← hlk] at hL
  have HL := Lib.hid (fun w => hL w (by omega) (by omega))
  have HPL := Lib.hid (parts_at k j esi)
  have hpl := parts_len k j esi
  have HSN := Lib.hid (DM.pick_snoc c (TM.parts k j esi))
  have HPK := Lib.hid (DM.pick_length c)
  have HD : Hid (DM.drop k j size c esi = RM.sum size (DM.pick c (TM.parts k j esi))) := rfl
  have HDL := Lib.hid (DM.drop_length k j size c esi)
  have HCUT : Hid (RM.cut (size : Int) = size) := by show _ = _; unfold RM.cut; omega
  have HT := Lib.hid hT
  clear hT hlk hL he
  obtain ⟨a, cap, rfl, _⟩ := hv.slice
  have HV := Lib.hid hv.at.2
  clear hv
  generalize DM.drop k j size c esi = row at *
  generalize TM.parts k j esi = l at *
  generalize PM.l k = L at *
  generalize PM.s k = m at *
  rw [hl] at HV ⊢
  clear hl
  obtain ⟨n, hn⟩ : ∃ n, n = l.length := ⟨_, rfl⟩
  rw [← hn] at hpl HPL HSN
  have HN := Lib.hid hn
  clear hn
  obtain ⟨hn1, hn2⟩ := hpl
  have hn0 : ((n : Int) == 0) = false := by rw [beq_eq_false_iff_ne]; omega
  obtain ⟨i1, hi', hz0', hz1', hz2'⟩ := info_parts rowinfo
  have HI' := Lib.hid hi'; clear hi'
  have HZ0' := Lib.hid hz0'; clear hz0'
  have HZ1' := Lib.hid hz1'; clear hz1'
  have HZ2' := Lib.hid hz2'; clear hz2'
  go_enter Tryd.func36, Tryd.ntmps36
  go_wp2_with fail
  generalize hw1 : World.alloc w _ = w1
  have hx1 : w.Extends w1 := by subst hw1; exact prm_ext_alloc _ _
  have hp : PAt w1 w.heap.size k m 2 := by subst hw1; exact PAt.new w 74 k m 2
  generalize w.heap.size = b at hp ⊢
  clear hw1
  have HX1 := Lib.hid hx1
  have HP1 := Lib.hid hp
  clear hx1 hp
  obtain ⟨p0, p1, p2⟩ := HP1.out
  go_wp2_with fail
  refine (HL.out w1).mono ?_
  rintro e w2 ⟨rfl, hx2⟩
  have HX2 := Lib.hid (Gr.ext_trans HX1.out hx2)
  have HP2 := Lib.hid (HP1.out.ext hx2)
  clear hx2 HX1 HP1 p0 p1 p2
  obtain ⟨p0, p1, p2⟩ := HP2.out
  go_wp2_with fail
  refine (HS.out w2 (HT.out.ext HX2.out)).mono ?_
  rintro e w3 ⟨vp, rfl, hx3, hown⟩
  have hints := owns_ints hown
  obtain ⟨ap, capp, rfl, hcap, hcap2⟩ := hints.slice
  rw [nats_length, ← HN.out] at hints ⊢
  have HIN := Lib.hid hints.cell.2
  have HX3 := Lib.hid (Gr.ext_trans HX2.out hx3)
  clear hx3 HX2 HP2 p0 p1 p2 hown hints hcap hcap2 hn1
  go_wp2_with fail
  go_loopw [12, 37] (fun o i wr => ∃ q : Nat, q ≤ n ∧ i = .int .i64 q ∧ Hid (w3.Extends wr) ∧ Hid (Mats wr w3.heap.size w.heap.size 67 o q (DM.pick c (l.take q)))) (fun _ i _ => (n - intOf i).toNat)
  case atStart => exact ⟨0, by omega, rfl, Lib.hid (Gr.ext_refl _), Lib.hid (Mats.nil _ _ _ _ _)⟩
  case round =>
    obtain ⟨q, hq, rfl, HX, HM⟩ := hrel
    by_cases h5 : q < n
    · obtain ⟨bp, off, rfl, hbp, hc⟩ := HIN.out (by omega)
      have hc1 := HX.out.cell_of (hc q h5)
      rw [nats_at] at hc1
      have hpL := HPL.out q h5
      have HS1 := Lib.hid (HSN.out q h5)
      clear hc hbp
      generalize l.getD q 0 = p at *
      obtain ⟨bc, oc, rfl, hbc, hcc⟩ := HV.out (by omega)
      obtain ⟨ra, rc, hc3, hr0⟩ := hcc p hpL
      have hc2 := (Gr.ext_trans HX3.out HX.out).cell_of hc3
      have HOK : Hid (RowOk wr w.heap.size (.slice ra (c.getD p []).length rc) (c.getD p [])) := (RowOk.old hr0 (Nat.le_refl _)).ext (Gr.ext_trans HX3.out HX.out)
      clear hcc hc3 hr0 hbc
      obtain ⟨vs, hown, hrows⟩ := HM.out
      have HOWN := Lib.hid hown
      have HROWS := Lib.hid hrows
      have HOB : Hid (∀ g, u12.ownBlock = some g → w3.heap.size ≤ g) := fun g hg => (HOWN.out.lt g hg).1
      have hbs := HX.out.size
      have hb3 := HX3.out.size
      have HPQ : Hid (q = (DM.pick c (l.take q)).length) := by
        show _ = _; rw [HPK.out, List.length_take, ← HN.out]; omega
      clear hown hrows HM
      go_wp2_with (at_builtin; refine wpList_append_own_src _ rfl _ _ 54 54 rfl w3.heap.size 67 i1 (.slice none 0 0) 1 24 Tryd.underlying54 HI'.out HZ0'.out HZ1'.out HZ2'.out rfl _ _ _ rfl (HOWN.out.alloc _) _ 1 [.slice ra (c.getD p []).length rc] rfl (src_one Tryd.underlying54 _ _ rfl rfl) (by unfold maxLen; omega) (by omega) (by simp; omega) ?_)
      intro v' w9 ho9 hg9 _
      have HP : Hid (w3.Extends w9 ∧ Mats w9 w3.heap.size w.heap.size 67 v' (q + 1) (DM.pick c (l.take (q + 1)))) := by
        refine ⟨Gr.ext_of (((Gr.below_of HX.out).alloc hbs _).grown hg9 (by simp; omega) HOB.out), ?_⟩
        rw [← HS1.out]
        exact Mats.snoc hb3 (by decide) HPQ.out (HOWN.out.alloc _) (fun j hj => by obtain ⟨u, h1, h2⟩ := HROWS.out j hj; exact ⟨u, h1, h2.ext (ext_alloc _ _)⟩) (HOK.out.ext (ext_alloc _ _)) hg9 ho9
      clear ho9 hg9
      go_wp2
      go_roundw
      case rel => exact ⟨q + 1, by omega, by go_num, Lib.hid HP.out.1, Lib.hid HP.out.2⟩
      case measure => simp [intOf]; omega
    · obtain rfl : q = n := by omega
      have HRW : Hid (Rws wr u12 (DM.pick c l)) := by
        have h := HM.out.rws (by rw [HPK.out, List.length_take, ← HN.out]; omega)
        rw [HN.out, List.take_length] at h
        exact h
      have HXW := Lib.hid (Gr.ext_trans HX3.out HX.out)
      clear HM HX
      go_wp2_with fail
      refine (sum_any (size : Int) u12 _ wr HRW.out).mono ?_
      rintro e w4 ⟨rfl, hb4, ho4⟩
      rw [HCUT.out, ← HD.out] at ho4
      rw [HCUT.out]
      have HP : Hid (MadeRow w row (.returned (.slice (some ⟨wr.heap.size, 0, none⟩) size size)) w4) := ⟨wr.heap.size, by rw [HDL.out], Gr.ext_trans HXW.out (Gr.ext_of hb4), HXW.out.size, ho4⟩
      clear hb4 ho4
      go_wp2
      go_ret
      exact HP.out
end Go.Proofs.YtpfmmfapdcbnkaaDoor
