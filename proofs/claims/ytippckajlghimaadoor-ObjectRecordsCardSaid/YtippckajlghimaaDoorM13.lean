/- In one text: Append3, Says, SeeFirst, RndLaid, SeeFind, BlkParts, BlkNew. -/
import Derived.Lib.LaidTab
import Derived.MakeChecks
import Derived.Stop.Joined
import Derived.OpenShut
import Derived.Test.YtippckajlghimaaDoorM1
import Derived.Test.YtippckajlghimaaDoorM2
import Derived.Test.YtippckajlghimaaDoorM3
import Derived.Test.YtippckajlghimaaDoorM8
import Derived.Test.YtippckajlghimaaDoorM9
import Derived.Test.YtippckajlghimaaDoorM10
import Derived.Test.YtippckajlghimaaDoorM11
import Derived.Test.YtippckajlghimaaDoorM12
/- append(s, x...) onto a slice that the call itself made: besides, the array is the old one or a new one, and holds nothing but what is of one kind, its spare room too. -/
namespace Go.Proofs.YtippckajlghimaaDoor
set_option maxRecDepth 20000
open Go.RowKit Go.Deep
set_option linter.unusedVariables false
/-- All cells of the array are C. -/
def CleanBlk (C : Value → Prop) (w : World) (v : Value) : Prop := ∀ (g : Nat) (cs : Array Value) (T : TypeId) (f : Nat × Nat), v.ownBlock = some g → w.heap[g]? = some (.cells cs T f) → ∀ y ∈ cs.toList, C y
theorem CleanBlk.nil (C : Value → Prop) (w : World) : CleanBlk C w (.slice none 0 0) := fun g cs T f hg => by cases hg
theorem CleanBlk.kept {C : Value → Prop} {w w' : World} {v : Value} (h : CleanBlk C w v) (hb : ∀ g, v.ownBlock = some g → w'.heap[g]? = w.heap[g]?) : CleanBlk C w' v := fun g cs T f hg hc => h g cs T f hg (by rw [← hb g hg]; exact hc)
theorem zero_mem {zc : Array Value} {k : Nat} {y : Value} (h : y ∈ (Builtin.zeroCells zc k).toList) : y ∈ zc.toList := by
  unfold Builtin.zeroCells at h
  simp only [Array.toList_map, Array.toList_range, List.mem_map, List.mem_range] at h
  obtain ⟨i, hi, rfl⟩ := h
  have hz : 0 < zc.size := by
    rcases Nat.eq_zero_or_pos zc.size with h0 | h0
    · rw [h0, Nat.mul_zero] at hi; omega
    · exact h0
  have hm := Nat.mod_lt i hz
  rw [getElem!_pos zc (i % zc.size) hm]
  exact Array.getElem_mem_toList hm
section
variable {P : Program} (w : World)
theorem run_append_own_src3 (base : Nat) (t tx ty e : TypeId) (i : TypeInfo) (z : Value) (size bytes : Nat) (ht : P.underlying t = some (.slice e)) (hi : P.info? e = some i) (hz : i.zero = some z)
    (hsize : i.size = size) (hby : i.bytes = bytes) (hzs : z.cells.size = size)
    (v : Value) (n : Nat) (xs : List Value) (hown : w.ownsRow base e size v n xs) (x : Value) (m : Nat) (news : List Value) (hs : Src P size tx x m news w)
    (h63 : n + m ≤ maxLen) (hbytes : (n + m) * bytes ≤ 140737488355328) (hbase : base ≤ w.heap.size) (C : Value → Prop) (hC : CleanBlk C w v) (hCn : ∀ y ∈ news, C y) (hCz : ∀ y ∈ z.cells.toList, C y) :
    ∃ v' w', (Builtin.append_ #[t, tx] ty #[v, x]).run P w = .ok v' w' ∧ w'.ownsRow base e size v' (n + m) (xs ++ news) ∧ w.grownBy w' v.ownBlock ∧
      (v'.ownBlock = v.ownBlock ∨ ∃ g, v'.ownBlock = some g ∧ w.heap.size ≤ g) ∧ CleanBlk C w' v' := by
  subst hsize
  subst hby
  have hsmall : n + m ≤ 9223372036854775807 := by simp only [maxLen] at h63; omega
  have hl := hs.newsLen
  have hlen : (xs ++ news).length = (n + m) * i.size := by rw [List.length_append, hown.1, hl, Nat.add_mul]
  have hCx : ∀ y ∈ xs, C y := fun y hy => by
    rcases hown.2 with ⟨rfl, rfl⟩ | ⟨g, cap, cur, rfl, hbg, hg, hnc, hcm, hcs, htake⟩
    · obtain rfl : xs = [] := List.eq_nil_of_length_eq_zero (by simpa using hown.1)
      cases hy
    · rw [← htake] at hy
      exact hC g cur _ _ rfl hg y (List.mem_of_mem_take hy)
  have fresh : ∀ (k cap' : Nat) (n' : Nat), CleanBlk C (w.drew.alloc (.cells ((xs ++ news).toArray ++ Builtin.zeroCells z.cells k) e)) (.slice (some ⟨w.heap.size, 0, none⟩) n' cap') := fun k cap' n' g cs T f hg hc y hy => by
    simp only [Value.ownBlock, Option.some.injEq] at hg
    subst hg
    rw [show w.heap.size = w.drew.heap.size from rfl, heap_alloc_new] at hc
    simp only [Option.some.injEq, Obj.cells.injEq] at hc
    rw [← hc.1, Array.toList_append, List.mem_append] at hy
    rcases hy with hy | hy
    · rcases List.mem_append.1 (by simpa using hy) with hy | hy
      · exact hCx y hy
      · exact hCn y hy
    · exact hCz y (zero_mem hy)
  have grown : ∀ (old : Nat), old < n + m → ∀ (row : Option Nat),
      (w.drew.alloc (.cells ((xs ++ news).toArray ++ Builtin.zeroCells z.cells (grownCap w (n + m) old e - (n + m))) e)).ownsRow base e i.size
        (.slice (some ⟨w.heap.size, 0, none⟩) (n + m) (grownCap w (n + m) old e)) (n + m) (xs ++ news) ∧
      w.grownBy (w.drew.alloc (.cells ((xs ++ news).toArray ++ Builtin.zeroCells z.cells (grownCap w (n + m) old e - (n + m))) e)) row := by
    intro old ho row
    have hge := grownCap_ge w (n + m) old e
    have hcm : grownCap w (n + m) old e ≤ maxLen := grownCap_le_maxLen w (n + m) old e h63
    refine ⟨⟨hlen, .inr ⟨w.heap.size, _, _, rfl, hbase, heap_alloc_new w.drew _, hge, hcm, ?_, ?_⟩⟩, ⟨rfl, rfl, rfl, by simp, fun k hk _ => Below.heap_alloc w.drew _ k hk⟩⟩
    · simp only [Array.size_append, List.size_toArray, size_zeroCells, hzs, hlen, ← Nat.add_mul]
      congr 1
      omega
    · simp only [Array.toList_append]
      rw [← hlen]
      exact List.take_left
  rcases hown.2 with ⟨rfl, rfl⟩ | ⟨g, cap, cur, rfl, hbg, hg, hnc, hcm, hcs, htake⟩
  · have hx : xs = [] := List.eq_nil_of_length_eq_zero (by simpa using hown.1)
    subst hx
    by_cases hm : m = 0
    · subst hm
      have hn : news = [] := List.eq_nil_of_length_eq_zero (by simpa using hl)
      subst hn
      refine ⟨.slice none 0 0, w, ?_, World.ownsRow_nil w base e i.size, ⟨rfl, rfl, rfl, Nat.le_refl _, fun _ _ _ => rfl⟩, .inl rfl, fun g cs T f hg => by cases hg⟩
      rcases hs.kind with ⟨e', hk⟩ | hk <;> simp [Builtin.append_, run_underlying ht, run_underlying hk, sizeOf, typeInfo, hi, hs.len, hs.cells]
    · have hr := run_append_grow_src (P := P) w t tx ty e i z ht hi hz none 0 0 [] (by simp [Builtin.firstCells]) x m news hs (by omega) (by omega) (growslice_fits (by omega) (by have hb := hbytes; simp only [Nat.zero_add] at hb ⊢; exact hb))
      have hgr := grown 0 (by omega) (Value.ownBlock (.slice none 0 0))
      simp only [Nat.zero_add, List.nil_append] at hgr hr ⊢
      refine ⟨_, _, hr, hgr.1, hgr.2, .inr ⟨_, rfl, Nat.le_refl _⟩, ?_⟩
      first | exact fresh _ _ _ | (have := fresh; simpa using fresh _ _ _)
  · by_cases hroom : n + m ≤ cap
    · have hfit : n * i.size + news.length ≤ cur.size := by rw [hl, hcs, ← Nat.add_mul]; exact Nat.mul_le_mul_right _ hroom
      have hst := run_storeCells_at P g (n * i.size) e news 0 cur w hg (by simpa using hfit) hs.one
      simp only [Nat.add_zero] at hst
      have hr : (Builtin.append_ #[t, tx] ty #[.slice (some ⟨g, 0, none⟩) n cap, x]).run P w =
          .ok (.slice (some ⟨g, 0, none⟩) (n + m) cap) (w.setRow g (cur.toList.take (n * i.size) ++ news ++ cur.toList.drop (n * i.size + news.length)).toArray) := by
        rcases hs.kind with ⟨e', hk⟩ | hk <;> simp [Builtin.append_, run_underlying ht, run_underlying hk, sizeOf, typeInfo, hi, hs.len, hroom, hs.cells, Addr.add_lit, hst]
      refine ⟨_, _, hr, ⟨hlen, .inr ⟨g, cap, _, rfl, hbg, setRow_heap w g cur _ e _ hg, hroom, hcm, ?_, ?_⟩⟩, ⟨rfl, rfl, rfl, by simp, fun k _ hk => setRow_other w g k _ (fun e => hk (by simp [Value.ownBlock, e]))⟩, .inl rfl, fun g' cs T f hg' hc y hy => ?_⟩
      · simp only [List.size_toArray, List.length_append, List.length_take, List.length_drop, Array.length_toList]
        omega
      · rw [htake, ← hlen]
        exact List.take_left
      · simp only [Value.ownBlock, Option.some.injEq] at hg'
        subst hg'
        rw [setRow_heap w g cur _ e _ hg] at hc
        simp only [Option.some.injEq, Obj.cells.injEq] at hc
        rw [← hc.1] at hy
        rcases List.mem_append.1 hy with hy | hy
        · rcases List.mem_append.1 hy with hy | hy
          · exact hC g cur _ _ rfl hg y (List.mem_of_mem_take hy)
          · exact hCn y hy
        · exact hC g cur _ _ rfl hg y (List.mem_of_mem_drop hy)
    · have holds : ∀ j u, xs[j]? = some u → w.cell? ((⟨g, 0, none⟩ : Addr).add j) = some u := hown.cells (g := g) rfl
      have hold := run_firstCells_some (P := P) w.drew i.size n ⟨g, 0, none⟩ n cap xs hown.1 (by simpa using holds)
      have hr := run_append_grow_src (P := P) w t tx ty e i z ht hi hz (some ⟨g, 0, none⟩) n cap xs hold x m news hs (by omega) (by omega) (growslice_fits (by omega) hbytes)
      have hgr := grown cap (by omega) (Value.ownBlock (.slice (some ⟨g, 0, none⟩) n cap))
      refine ⟨_, _, hr, hgr.1, hgr.2, .inr ⟨_, rfl, Nat.le_refl _⟩, ?_⟩
      first | exact fresh _ _ _ | (have := fresh; simpa using fresh _ _ _)
theorem wp_append_own_src3 {o : Oper} {a : Act} {K : Act → World → Prop} {Q : Exit → Act → World → Prop} (s x : Operand) (t tx : TypeId)
    (ho : o.op = .call { callee := .builtin .append, args := #[s, x], argTypes := #[t, tx] })
    (base : Nat) (e : TypeId) (i : TypeInfo) (z : Value) (size bytes : Nat) (ht : P.underlying t = some (.slice e)) (hi : P.info? e = some i) (hz : i.zero = some z)
    (hsize : i.size = size) (hby : i.bytes = bytes) (hzs : z.cells.size = size)
    (v : Value) (n : Nat) (xs : List Value) (hs : a.eval s = v) (hown : w.ownsRow base e size v n xs) (y : Value) (m : Nat) (news : List Value) (hx : a.eval x = y) (hsrc : Src P size tx y m news w)
    (h63 : n + m ≤ maxLen) (hbytes : (n + m) * bytes ≤ 140737488355328) (hbase : base ≤ w.heap.size) (C : Value → Prop) (hC : CleanBlk C w v) (hCn : ∀ y ∈ news, C y) (hCz : ∀ y ∈ z.cells.toList, C y)
    (h : ∀ v' w', w'.ownsRow base e size v' (n + m) (xs ++ news) → w.grownBy w' v.ownBlock → (v'.ownBlock = v.ownBlock ∨ ∃ g, v'.ownBlock = some g ∧ w.heap.size ≤ g) → CleanBlk C w' v' → K (a.put o.dst v') w') : o.wp P a w K Q := by
  obtain ⟨v', w', hr, h2, h3, h4, h5⟩ := run_append_own_src3 (P := P) w base t tx o.type e i z size bytes ht hi hz hsize hby hzs v n xs hown y m news hsrc h63 hbytes hbase C hC hCn hCz
  unfold Oper.wp execOp
  simp only [ho, resolve, invoke, builtin, Sem.run_bind, Sem.run_pure, Result.andThen_ok, List.map_toArray, List.map_cons, List.map_nil, hs, hx, hr]
  exact h v' w' h2 h3 h4 h5
theorem wpList_append_own_src3 {ops : Array Oper} {rest : List Oper} {o : Oper} {a : Act} {Q : Exit → Act → World → Prop} (hgd : o.guard = none) (s x : Operand) (t tx : TypeId)
    (ho : o.op = .call { callee := .builtin .append, args := #[s, x], argTypes := #[t, tx] })
    (base : Nat) (e : TypeId) (i : TypeInfo) (z : Value) (size bytes : Nat) (ht : P.underlying t = some (.slice e)) (hi : P.info? e = some i) (hz : i.zero = some z)
    (hsize : i.size = size) (hby : i.bytes = bytes) (hzs : z.cells.size = size)
    (v : Value) (n : Nat) (xs : List Value) (hs : a.eval s = v) (hown : w.ownsRow base e size v n xs) (y : Value) (m : Nat) (news : List Value) (hx : a.eval x = y) (hsrc : Src P size tx y m news w)
    (h63 : n + m ≤ maxLen) (hbytes : (n + m) * bytes ≤ 140737488355328) (hbase : base ≤ w.heap.size) (C : Value → Prop) (hC : CleanBlk C w v) (hCn : ∀ y ∈ news, C y) (hCz : ∀ y ∈ z.cells.toList, C y)
    (h : ∀ v' w', w'.ownsRow base e size v' (n + m) (xs ++ news) → w.grownBy w' v.ownBlock → (v'.ownBlock = v.ownBlock ∨ ∃ g, v'.ownBlock = some g ∧ w.heap.size ≤ g) → CleanBlk C w' v' → wpList P ops Q rest (a.put o.dst v') w') : wpList P ops Q (o :: rest) a w :=
  wpList_plain hgd fun _ hK => wp_append_own_src3 w s x t tx ho base e i z size bytes ht hi hz hsize hby hzs v n xs hs hown y m news hx hsrc h63 hbytes hbase C hC hCn hCz fun v' w' h2 h3 h4 h5 => hK _ _ (h v' w' h2 h3 h4 h5)
end
end Go.Proofs.YtippckajlghimaaDoor
/- An answer that tells whether something holds. -/
namespace Go.Proofs.YtippckajlghimaaDoor
set_option maxRecDepth 20000
open Go.RowKit
set_option linter.unusedVariables false
/-- Does each row have size elements? -/
def AllB (size : Int) (l : List (List Nat)) : Prop := ∀ k, k < l.length → ((l.getD k []).length : Int) = size
/-- The answer tells whether P. -/
def Says (P : Prop) (w : World) (e : Ending) (w' : World) : Prop := (∃ b : Bool, e = .returned (.bool b) ∧ (b = true ↔ P)) ∧ w.Extends w'
theorem Says.yes {P : Prop} {w w' : World} (h : P) (hx : w.Extends w') : Says P w (.returned (.bool true)) w' := ⟨⟨true, rfl, fun _ => h, fun _ => rfl⟩, hx⟩
theorem Says.no {P : Prop} {w w' : World} (h : ¬ P) (hx : w.Extends w') : Says P w (.returned (.bool false)) w' := ⟨⟨false, rfl, fun h' => (by cases h'), fun h' => absurd h' h⟩, hx⟩
end Go.Proofs.YtippckajlghimaaDoor
/- The numbers from 0 on: the program's and the reference's. -/
namespace Go.Proofs.YtippckajlghimaaDoor
set_option maxRecDepth 20000
open Go.RowKit Go.Deep
set_option linter.unusedVariables false
/-- A slice of the call's own of these ints. -/
def OwnInts (w : World) (l : List Int) (e : Ending) (w' : World) : Prop := ∃ v, e = .returned v ∧ w.Extends w' ∧ Ints w' v l
theorem mkInts (k : Nat) (hk : k ≤ 1000) (w : World) : (Instr.makeSlice 83 (.int .i64 (k : Int)) (.int .i64 (k : Int))).run Tryd.prog w = .ok (.slice (some ⟨w.heap.size, 0, none⟩) k k) (w.alloc (.cells (madeCells #[.int .i64 0] k) 3)) :=
  run_make_row' (P := Tryd.prog) 83 3 (.int .i64 0) 8 Tryd.underlying83 intinfo rfl .i64 .i64 k (by omega) (by omega) w
/-- Block g holds n ints, the first k of them their own places. -/
def Upto (w : World) (g n k : Nat) : Prop := w.rowIs g 3 n (fun i => .int .i64 (if i < k then (i : Nat) else 0 : Nat))
theorem Upto.made (w : World) (n : Nat) : Upto (w.alloc (.cells (madeCells #[.int .i64 0] n) 3)) w.heap.size n 0 :=
  (World.rowIs_made w (.int .i64 0) n 3).congr fun i hi => by simp
theorem Upto.set {w : World} {g n k : Nat} (h : Upto w g n k) : Upto (w.setCell ⟨g, k, none⟩ (.int .i64 (k : Nat))) g n (k + 1) :=
  (World.rowIs.set h k (.int .i64 (k : Nat))).congr fun i hi => by
    by_cases e : i = k
    · subst e; simp
    · by_cases e2 : i < k
      · simp [e, e2, show i < k + 1 by omega]
      · simp [e, e2, show ¬ i < k + 1 by omega]
theorem Upto.ints {w : World} {g n : Nat} (h : Upto w g n n) (hn : n ≤ 1000) : Ints w (.slice (some ⟨g, 0, none⟩) n n) (SM.iota n) := by
  refine .inr ⟨g, 0, n, by rw [SM.iota_length], by rw [SM.iota_length]; exact Nat.le_refl _, by unfold maxLen; omega, h.lt, fun k hk => ?_⟩
  rw [SM.iota_length] at hk
  rw [SM.iota_at n k hk, Nat.zero_add, h.cell hk, if_pos hk]
theorem firstEsis_any (n : Nat) (w : World) (hn : n ≤ 1000) :
    Calls Tryd.prog 37 #[.int .i64 n] w (OwnInts w (SM.iota n)) := by
  obtain ⟨i0, hi, hz0, hz1, hz2⟩ := info_parts intinfo
  have HI := Lib.hid hi; clear hi
  have HZ0 := Lib.hid hz0; clear hz0
  have HZ1 := Lib.hid hz1; clear hz1
  have HZ2 := Lib.hid hz2; clear hz2
  go_enter Tryd.func37, Tryd.ntmps37
  go_wp2_with fail
  go_loopw [3, 6] (fun v i wr => ∃ k : Nat, k ≤ n ∧ i = .int .i64 k ∧ Hid (w.Extends wr) ∧ Hid (wr.ownsRow w.heap.size 3 1 v k (i64vs (SM.iota k)))) (fun _ i _ => (n - intOf i).toNat)
  case atStart => exact ⟨0, by omega, rfl, Lib.hid (Gr.ext_refl _), Lib.hid (World.ownsRow_nil _ _ _ _)⟩
  case round =>
    obtain ⟨k, hk, rfl, HX, HOWN⟩ := hrel
    by_cases h1 : k < n
    · have HOB : Hid (∀ g, u3.ownBlock = some g → w.heap.size ≤ g) := fun g hg => (HOWN.out.lt g hg).1
      have hbs := HX.out.size
      have HSN : Hid (i64vs (SM.iota k) ++ [.int .i64 (k : Nat)] = i64vs (SM.iota (k + 1))) := by show _ = _; rw [← SM.iota_snoc, i64vs_snoc]
      go_wp2_with (at_builtin; refine wpList_append_own_src _ rfl _ _ 83 83 rfl w.heap.size 3 i0 (.int .i64 0) 1 8 Tryd.underlying83 HI.out HZ0.out HZ1.out HZ2.out rfl _ _ _ rfl (HOWN.out.alloc _) _ 1 [.int .i64 k] rfl (src_one Tryd.underlying83 _ _ rfl rfl) (by unfold maxLen; omega) (by omega) (by simp; omega) ?_)
      intro v' w3 ho3 hg3 _
      have HP1 : Hid (w.Extends w3) := Gr.ext_of (((Gr.below_of HX.out).alloc hbs _).grown hg3 (by simp; omega) HOB.out)
      rw [HSN.out] at ho3
      have HP2 := Lib.hid ho3
      clear ho3 hg3
      go_wp2
      go_roundw
      case rel => exact ⟨k + 1, by omega, by go_num, HP1, HP2⟩
      case measure => simp [intOf]; omega
    · obtain rfl : k = n := by omega
      have HP : Hid (OwnInts w (SM.iota k) (.returned u3) wr) := ⟨_, rfl, HX.out, owns_ints HOWN.out⟩
      go_wp2
      go_ret
      exact HP.out
end Go.Proofs.YtippckajlghimaaDoor
/- How the arguments open; what the listed variable's reading gives the walks. -/
namespace Go.Proofs.YtippckajlghimaaDoor
set_option maxRecDepth 20000
open Go.RowKit Go.ChangeShapes Go.WideShapes
theorem u32_nat {a : Int} (h : (Lit.int .u32 a).wf = true) : ∃ n : Nat, a = n ∧ n < 4294967296 := by
  obtain ⟨h0, h1⟩ := bounds_u32 h
  exact ⟨a.toNat, by omega, by omega⟩
theorem i64_bounds {a : Int} (h : (Lit.int .i64 a).wf = true) : -9223372036854775808 ≤ a ∧ a ≤ 9223372036854775807 := by
  simp [Lit.wf, IntKind.min, IntKind.max, IntKind.signed, IntKind.bits] at h
  omega
theorem gN : Tryd.prog.globalNamed "fountain/random.degreeBounds" = some 0 := by kernel_rfl
theorem gNType : (Tryd.prog.globals[0]?).map (·.type) = some 131 := by kernel_rfl
theorem of_laid {W : World} (h : laidMetH Tryd.prog [("fountain/random.degreeBounds", Rows.laid_fountain_random_degreeBounds)] W) : Tab W := by
  rw [MakeChecks.laidMetH_plain _ _ _ (by kernel_rfl)] at h
  have hT : Lib.TabIs Tryd.prog W "fountain/random.degreeBounds" .i64 RM.bounds :=
    Lib.tabIs_of_head (rest := []) gN gNType Tryd.underlying131 Tryd.underlying3 (by kernel_rfl) (by kernel_rfl) h
  exact fun i hi => hT.cell gN i hi
end Go.Proofs.YtippckajlghimaaDoor
/- seed.Find. -/
namespace Go.Proofs.YtippckajlghimaaDoor
set_option maxRecDepth 20000
open Go.RowKit Go.Deep
set_option linter.unusedVariables false
/-- The answer tells whether j is good. -/
def GoodOut (w : World) (k j : Nat) (e : Ending) (w' : World) : Prop := (∃ b : Bool, e = .returned (.bool b) ∧ (b = true ↔ SM.Good k j)) ∧ w.Extends w'
theorem wid_l (k : Nat) (h : k ≤ 40) : wid (PM.l k : Int) = PM.l k := by have := PM.l_le k h; unfold wid; omega
theorem mats_rows {w : World} {B : Nat} {T : TypeId} {v : Value} {l : List (List Nat)} (h : Mats w B 0 T v l.length l) : Rws w v l := Mats.rws h rfl
theorem eq_good {k j r : Nat} (h : LA.RankIs (PM.l k) (· < (SM.rows k j).length) (rowsF (PM.l k) 0 (SM.rows k j) []) r) : ((r : Int) == (PM.l k : Int)) = true ↔ SM.Good k j := by
  rw [beq_iff_eq, ← SM.good_iff h]; omega
theorem settled_any (k j : Nat) (v : Value) (w : World) (h1 : 1 ≤ k) (h2 : k ≤ 40) (hv : Rws w v (SM.rows k j)) :
    Calls Tryd.prog 41 #[PV k (PM.s k) 2, v] w (GoodOut w k j) := by
  have hs7 := PM.s_le k h2
  have HL := Lib.hid (fun w => prmL_any k (PM.s k) 2 w (by omega) (by omega))
  have hlk : (k : Int) + (PM.s k : Int) + 2 = (PM.l k : Int) := by unfold PM.l PM.w; omega
  simp only [hlk] at HL
  have HR : Hid (∀ w, Rws w v (SM.rows k j) → Calls Tryd.prog 48 #[.int .i64 (PM.l k), v] w (RankOut w (PM.l k) (· < (SM.rows k j).length) (rowsF (PM.l k) 0 (SM.rows k j) []))) := fun w hv => by
    have := rank_any (PM.l k) v (SM.rows k j) w hv
    rwa [wid_l k h2] at this
  have HE : Hid (∀ r : Nat, LA.RankIs (PM.l k) (· < (SM.rows k j).length) (rowsF (PM.l k) 0 (SM.rows k j) []) r → (((r : Int) == (PM.l k : Int)) = true ↔ SM.Good k j)) := fun r h => eq_good h
  have hl49 := PM.l_le k h2
  have HV := Lib.hid hv
  obtain ⟨a, cap, rfl, _⟩ := hv.slice
  clear hv hlk hs7
  generalize hF : rowsF (PM.l k) 0 (SM.rows k j) [] = F at *
  clear hF
  generalize SM.rows k j = rs at *
  generalize PM.l k = L at *
  generalize PM.s k = S at *
  go_enter Tryd.func41, Tryd.ntmps41
  go_wp2_with fail
  generalize hw1 : World.alloc w _ = w1
  have hx1 : w.Extends w1 := by subst hw1; exact prm_ext_alloc _ _
  have hp : PAt w1 w.heap.size k S 2 := by subst hw1; exact PAt.new w 56 k S 2
  obtain ⟨b, hb⟩ : ∃ b, b = w.heap.size := ⟨_, rfl⟩
  rw [← hb] at hp ⊢
  clear hw1 hb
  have HX1 := Lib.hid (Gr.ext_drew hx1)
  have HP1 := Lib.hid (hp.ext (Gr.ext_drew (Gr.ext_refl w1)))
  clear hx1 hp
  refine Gr.region 7 [(false,0),(false,2),(false,4),(true,1),(true,3),(true,5),(false,6)] (by kernel_rfl) (by kernel_rfl) (fun d _ _ _ _ h => by cases d <;> exact h) ?_
  simp only [Gr.pick, List.getElem?_cons_zero, List.getElem?_cons_succ, List.drop_succ_cons, List.drop_zero]
  generalize w1.drew = w2 at *
  iterate 3
    refine Gr.walk_t ?_ (Or.inl ⟨by rfl, ?_⟩) ?_
    rotate_left
    · intro w' hw'
      obtain ⟨p0, p1, p2⟩ := HP1.out.ext hw'
      clear hw'
      go_simp
      try with_reducible rfl
    simp only [Act.put, List.setIfInBounds_toArray, List.set_cons_zero, List.set_cons_succ]
  refine Gr.walk_c (fun K hK => ?_)
  go_simp
  refine (HL.out w2).mono ?_
  rintro e w3 ⟨rfl, hx3⟩
  have HX3 := Lib.hid (Gr.ext_trans HX1.out hx3)
  try go_simp
  refine hK.out _ _ (hx3) ?_
  clear hK K
  clear hx3 HX1
  refine Gr.walk_c (fun K hK => ?_)
  go_simp
  refine (HR.out w3 (HV.out.ext HX3.out)).mono ?_
  rintro e w4 ⟨r, rfl, hr, hb4⟩
  have hx4 := Gr.ext_of hb4
  have HX4 := Lib.hid (Gr.ext_trans HX3.out hx4)
  have HEQ := Lib.hid (HE.out r hr)
  try go_simp
  refine hK.out _ _ (hx4) ?_
  clear hK K
  clear hx4 hb4 hr HX3
  refine Gr.walk_c (fun K hK => ?_)
  go_simp
  refine (HL.out w4).mono ?_
  rintro e w5 ⟨rfl, hx5⟩
  have HX5 := Lib.hid (Gr.ext_trans HX4.out hx5)
  try go_simp
  refine hK.out _ _ (hx5) ?_
  clear hK K
  clear hx5 HX4
  refine Gr.walk_t ?_ (Or.inl ⟨by rfl, ?_⟩) ?_
  rotate_left
  · intro w' hw'
    clear hw'
    go_simp
    try with_reducible rfl
  simp only [Act.put, List.setIfInBounds_toArray, List.set_cons_zero, List.set_cons_succ]
  refine Gr.walk_nil ?_
  go_wp2
  go_ret
  exact ⟨⟨_, rfl, HEQ.out⟩, HX5.out⟩
/-- The closure: what it captured are the block's numbers and the symbols' numbers. -/
theorem can_any (k j p q : Nat) (v : Value) (w : World) (h1 : 1 ≤ k) (h2 : k ≤ 40) (hj : j ≤ 255) (hp : PAt w p k (PM.s k) 2) (hq : w.cell? ⟨q, 0, none⟩ = some v) (hv : Ints w v (SM.iota k)) (hT : Tab w) :
    Calls Tryd.prog 40 #[.int .i64 j, .pointer (some ⟨p, 0, none⟩), .pointer (some ⟨q, 0, none⟩)] w (GoodOut w k j) := by
  have HM : Hid (∀ w, Ints w v (SM.iota k) → Tab w → Calls Tryd.prog 42 #[PV k (PM.s k) 2, .int .i64 j, v] w (MadeRws w (SM.rows k j))) := fun w hv hT => mat_some k j v (SM.iota k) w h1 h2 hj (SM.iota_ok k (by omega)) (by rw [SM.iota_length]; omega) hv hT
  have HS := Lib.hid (fun u w hu => settled_any k j u w h1 h2 hu)
  have HP := Lib.hid hp
  have HV := Lib.hid hv
  have HTB := Lib.hid hT
  have HQ := Lib.hid hq
  obtain ⟨a, cap, rfl, _⟩ := hv.slice
  clear hp hv hT hq
  generalize (SM.iota k).length = n at *
  generalize SM.rows k j = rs at *
  generalize PM.s k = S at *
  go_enter Tryd.func40, Tryd.ntmps40
  go_wp2_with fail
  have HX0 : Hid (w.Extends w.drew) := Gr.ext_drew (Gr.ext_refl w)
  refine Gr.region 6 [(false,0),(false,1),(false,2),(false,3),(true,4),(true,5)] (by kernel_rfl) (by kernel_rfl) (fun d _ _ _ _ h => by cases d <;> exact h) ?_
  simp only [Gr.pick, List.getElem?_cons_zero, List.getElem?_cons_succ, List.drop_succ_cons, List.drop_zero]
  generalize w.drew = w1 at *
  iterate 2
    refine Gr.walk_t ?_ (Or.inl ⟨by rfl, ?_⟩) ?_
    rotate_left
    · intro w' hw'
      obtain ⟨p0, p1, p2⟩ := HP.out.ext (Gr.ext_trans HX0.out hw')
      clear hw'
      go_simp
      try with_reducible rfl
    simp only [Act.put, List.setIfInBounds_toArray, List.set_cons_zero, List.set_cons_succ]
  iterate 2
    refine Gr.walk_t ?_ (Or.inl ⟨by rfl, ?_⟩) ?_
    rotate_left
    · intro w' hw'
      have hq := (Gr.ext_trans HX0.out hw').cell_of HQ.out
      clear hw'
      go_simp
      try with_reducible rfl
    simp only [Act.put, List.setIfInBounds_toArray, List.set_cons_zero, List.set_cons_succ]
  refine Gr.walk_c (fun K hK => ?_)
  go_simp
  refine (HM.out w1 (HV.out.ext HX0.out) (HTB.out.ext HX0.out)).mono ?_
  rintro e w2 ⟨u, rfl, hx2, hu⟩
  have HX2 := Lib.hid (Gr.ext_trans HX0.out hx2)
  have HU := Lib.hid (mats_rows hu)
  try go_simp
  refine hK.out _ _ (hx2) ?_
  clear hK K
  clear hx2 hu HX0 HM
  refine Gr.walk_c (fun K hK => ?_)
  go_simp
  refine (HS.out u w2 HU.out).mono ?_
  rintro e w3 ⟨⟨b, rfl, hb⟩, hx3⟩
  have HX3 := Lib.hid (Gr.ext_trans HX2.out hx3)
  have HB := Lib.hid hb
  try go_simp
  refine hK.out _ _ (hx3) ?_
  clear hK K
  clear hx3 HX2 hb
  refine Gr.walk_nil ?_
  go_wp2
  go_ret
  exact ⟨⟨_, rfl, HB.out⟩, HX3.out⟩
/-- The least number, as both programs answer it. -/
def SeedOut (w : World) (k : Nat) (e : Ending) (w' : World) : Prop := ∃ r er : Nat, e = .returned (.tuple #[.int .i64 r, .int .i64 er]) ∧ SM.SeedIs k r er ∧ w.Extends w'
theorem least_any (k p q : Nat) (w : World)
    (H : ∀ (j : Nat) w', j ≤ 255 → w.Extends w' → Calls Tryd.prog 40 #[.int .i64 j, .pointer (some ⟨p, 0, none⟩), .pointer (some ⟨q, 0, none⟩)] w' (GoodOut w' k j)) :
    Calls Tryd.prog 39 #[.func (.func 40) #[] #[.pointer (some ⟨p, 0, none⟩), .pointer (some ⟨q, 0, none⟩)]] w (SeedOut w k) := by
  have HH := Lib.hid H
  clear H
  go_enter Tryd.func39, Tryd.ntmps39
  go_wp2_with fail
  go_loopw [5] (fun i wr => ∃ j : Nat, j ≤ 256 ∧ i = .int .i64 j ∧ Hid (w.Extends wr) ∧ Hid (∀ i, i < j → ¬ SM.Good k i)) (fun i _ => (256 - intOf i).toNat)
  case atStart => exact ⟨0, by omega, rfl, Lib.hid (Gr.ext_refl _), Lib.hid (fun i hi => absurd hi (Nat.not_lt_zero _))⟩
  case round =>
    obtain ⟨j, hj, rfl, HX, HN⟩ := hrel
    by_cases h1 : j < 256
    · have HC := Lib.hid (HH.out j wr (by omega) HX.out)
      go_wp2_with fail
      refine HC.out.mono ?_
      rintro e w2 ⟨⟨b, rfl, hb⟩, hx2⟩
      have HX2 := Lib.hid (Gr.ext_trans HX.out hx2)
      have HB := Lib.hid hb
      clear hx2 hb HC
      cases b with
      | true =>
        have HP : Hid (SeedOut w k (.returned (.tuple #[.int .i64 (j : Nat), .int .i64 ((0 : Nat) : Int)])) w2) := ⟨j, 0, rfl, .inl ⟨rfl, h1, HB.out.1 rfl, HN.out⟩, HX2.out⟩
        go_wp2
        go_returns
        exact HP.out
      | false =>
        have HN2 : Hid (∀ i, i < j + 1 → ¬ SM.Good k i) := fun i hi => by
          by_cases e : i = j
          · subst e; exact fun hg => absurd (HB.out.2 hg) (by decide)
          · exact HN.out i (by omega)
        go_wp2
        go_roundw
        case rel => exact ⟨j + 1, by omega, by go_num, HX2, HN2⟩
        case measure => simp [intOf]; omega
    · obtain rfl : j = 256 := by omega
      have HP : Hid (SeedOut w k (.returned (.tuple #[.int .i64 ((0 : Nat) : Int), .int .i64 ((5 : Nat) : Int)])) wr) := ⟨0, 5, rfl, .inr ⟨rfl, rfl, HN.out⟩, HX.out⟩
      go_wp2
      go_returns
      exact HP.out
/-- Find of a block's number. -/
theorem find_some (k : Nat) (w : World) (h1 : 1 ≤ k) (h2 : k ≤ 40) (hT : Tab w) :
    Calls Tryd.prog 27 #[.int .i64 k] w (SeedOut w k) := by
  have HO := Lib.hid (fun w => prmOf_good k w h1 h2)
  have HF := Lib.hid (fun w => firstEsis_any k w (by omega))
  have HC : Hid (∀ (j p q : Nat) v w, j ≤ 255 → PAt w p k (PM.s k) 2 → w.cell? ⟨q, 0, none⟩ = some v → Ints w v (SM.iota k) → Tab w → Calls Tryd.prog 40 #[.int .i64 j, .pointer (some ⟨p, 0, none⟩), .pointer (some ⟨q, 0, none⟩)] w (GoodOut w k j)) := fun j p q v w hj hp hq hv hT => can_any k j p q v w h1 h2 hj hp hq hv hT
  have HTB := Lib.hid hT
  clear hT
  generalize PM.s k = S at *
  go_enter Tryd.func27, Tryd.ntmps27
  go_wp2_with fail
  refine (HO.out w).mono ?_
  rintro e w1 ⟨rfl, hx1⟩
  have HX1 := Lib.hid hx1
  clear hx1 HO
  go_wp2_with fail
  generalize hw2 : World.alloc w1 _ = w2
  have hx2 : w1.Extends w2 := by subst hw2; exact prm_ext_alloc _ _
  have hp : PAt w2 w1.heap.size k S 2 := by subst hw2; exact PAt.new w1 56 k S 2
  generalize w1.heap.size = p at hp ⊢
  clear hw2
  have HX2 := Lib.hid (Gr.ext_trans HX1.out hx2)
  have HP2 := Lib.hid hp
  clear hx2 hp HX1
  refine (HF.out w2).mono ?_
  rintro e w3 ⟨v, rfl, hx3, hv3⟩
  have HX3 := Lib.hid (Gr.ext_trans HX2.out hx3)
  have HP3 := Lib.hid (HP2.out.ext hx3)
  have HV3 := Lib.hid hv3
  obtain ⟨a, cap, rfl, _⟩ := hv3.slice
  clear hx3 hv3 HX2 HP2 HF
  go_wp2_with fail
  generalize hw4 : World.alloc w3 _ = w4
  have hx4 : w3.Extends w4 := by subst hw4; exact ext_alloc _ _
  have hq : w4.cell? ⟨w3.heap.size, 0, none⟩ = some (.slice a (SM.iota k).length cap) := by subst hw4; rw [cell_of_row _ _ _ _ _ _ (heap_alloc_new w3 _)]; rfl
  generalize w3.heap.size = q at hq ⊢
  clear hw4
  have HX4 := Lib.hid (Gr.ext_trans HX3.out hx4)
  have HP4 := Lib.hid (HP3.out.ext hx4)
  have HV4 := Lib.hid (HV3.out.ext hx4)
  have HQ4 := Lib.hid hq
  clear hx4 HX3 HP3 HV3 hq
  refine (least_any k p q w4 (fun j w' hj hx => HC.out j p q _ w' hj (HP4.out.ext hx) (hx.cell_of HQ4.out) (HV4.out.ext hx) (HTB.out.ext (Gr.ext_trans HX4.out hx)))).mono ?_
  rintro e w5 ⟨r, er, rfl, hr, hx5⟩
  have HP : Hid (SeedOut w k (.returned (.tuple #[.int .i64 r, .int .i64 er])) w5) := ⟨r, er, rfl, hr, Gr.ext_trans HX4.out hx5⟩
  clear hr hx5
  go_wp2
  go_returns
  exact HP.out
/-- Find of a number of no block. -/
theorem find_none (k : Int) (w : World) (h : k < 1 ∨ 40 < k) :
    Calls Tryd.prog 27 #[.int .i64 k] w fun e w' => e = .returned (.tuple #[.int .i64 0, .int .i64 1]) ∧ w.Extends w' := by
  have HO := Lib.hid (fun w => prmOf_bad k w h)
  clear h
  go_enter Tryd.func27, Tryd.ntmps27
  go_wp2_with fail
  refine (HO.out w).mono ?_
  rintro e w1 ⟨rfl, hx1⟩
  have HX1 := Lib.hid hx1
  clear hx1 HO
  go_wp2_with fail
  generalize hw2 : World.alloc w1 _ = w2
  have HX2 : Hid (w.Extends w2) := by subst hw2; exact Gr.ext_trans HX1.out (prm_ext_alloc _ _)
  clear hw2
  go_returns
  exact ⟨rfl, HX2.out⟩
end Go.Proofs.YtippckajlghimaaDoor
/- Package block: allOf and partsOf. -/
namespace Go.Proofs.YtippckajlghimaaDoor
set_option maxRecDepth 20000
open Go.RowKit Go.Deep
set_option linter.unusedVariables false
theorem allOf_any (size : Int) (v : Value) (l : List (List Nat)) (w : World) (hv : Rws w v l) :
    Calls Tryd.prog 26 #[.int .i64 size, v] w (Says (AllB size l) w) := by
  have hm := hv.len
  obtain ⟨a, cap, rfl, _⟩ := hv.slice
  have HV := Lib.hid hv.at.2
  have HALL : Hid ((∀ k, k < l.length → ((l.getD k []).length : Int) = size) ↔ AllB size l) := Iff.rfl
  clear hv
  generalize hn : l.length = n at *
  have HN := Lib.hid hn; clear hn
  unfold maxLen at hm
  go_enter Tryd.func26, Tryd.ntmps26
  go_wp2_with fail
  go_loopw [9] (fun i wr => ∃ k : Nat, k ≤ n ∧ i = .int .i64 k ∧ Hid (w.Extends wr) ∧ Hid (∀ i, i < k → ((l.getD i []).length : Int) = size)) (fun i _ => (n - intOf i).toNat)
  case atStart => exact ⟨0, by omega, rfl, Lib.hid (Gr.ext_refl _), Lib.hid (fun i hi => absurd hi (Nat.not_lt_zero _))⟩
  case round =>
    obtain ⟨k, hk, rfl, HX, HK⟩ := hrel
    by_cases h1 : k < n
    · obtain ⟨b1, o1, rfl, hb1, hc1⟩ := HV.out (by omega)
      obtain ⟨ra, rc, hc3, hr0⟩ := hc1 k h1
      have hc2 := HX.out.cell_of hc3
      clear hc1 hc3 hr0
      have HK2 : Hid (((l.getD k []).length : Int) = size → ∀ i, i < k + 1 → ((l.getD i []).length : Int) = size) := fun h2 i hi => by
        by_cases e : i = k
        · subst e; exact h2
        · exact HK.out i (by omega)
      have HK3 : Hid (AllB size l → ((l.getD k []).length : Int) = size) := fun h => h k (by rw [HN.out]; exact h1)
      generalize (l.getD k []).length = r at *
      by_cases h2 : (r : Int) = size
      · have hne : ((r : Int) != size) = false := by simpa using h2
        have HK4 := Lib.hid (HK2.out h2)
        clear h2 HK2 HK3
        go_wp2
        go_roundw
        case rel => exact ⟨k + 1, by omega, by go_num, HX, HK4⟩
        case measure => simp [intOf]; omega
      · have hne : ((r : Int) != size) = true := by simpa using h2
        have HP : Hid (Says (AllB size l) w (.returned (.bool false)) wr) := Says.no (fun h => h2 (HK3.out h)) HX.out
        clear h2 HK2 HK3
        go_wp2
        go_ret
        exact HP.out
    · obtain rfl : k = n := by omega
      have HP : Hid (Says (AllB size l) w (.returned (.bool true)) wr) := Says.yes (fun i hi => HK.out i (by rw [← HN.out]; exact hi)) HX.out
      go_wp2
      go_ret
      exact HP.out
theorem mkRowList (k : Nat) (hk : k ≤ 1000) (w : World) : (Instr.makeSlice 51 (.int .i64 (k : Int)) (.int .i64 (k : Int))).run Tryd.prog w = .ok (.slice (some ⟨w.heap.size, 0, none⟩) k k) (w.alloc (.cells (madeCells #[.slice none 0 0] k) 59)) :=
  run_make_row' (P := Tryd.prog) 51 59 (.slice none 0 0) 24 Tryd.underlying51 rowinfo rfl .i64 .i64 k (by omega) (by omega) w
/-- What partsOf answers. -/
def PartsOut (w : World) (k j size : Nat) (src : List (List Nat)) (e : Ending) (w' : World) : Prop :=
  ∃ res u, SolveRes (PM.l k) size (· < PM.l k) (BM.F k j size src) res ∧ e = .returned (.tuple #[u, .int .i64 (errOf res : Nat)]) ∧ w.Extends w' ∧ Rws w' u (res.getD [])
theorem solve_of (k j size : Nat) (u v : Value) (src : List (List Nat)) (w : World) (h1 : 1 ≤ k) (h2 : k ≤ 40) (hs1 : 1 ≤ size) (hs2 : size ≤ 64) (hl : src.length = k) (hu : Rws w u (SM.rows k j)) (hv : Rws w v (BM.mixed k src)) :
    Calls Tryd.prog 43 #[.int .i64 (PM.l k), .int .i64 size, u, v] w (PartsOut w k j size src) := by
  have hlk := PM.l_le k h2
  have hlen : (SM.rows k j).length = PM.l k := BM.rows_l k j
  refine (solve_good (PM.l k) size u v (SM.rows k j) (BM.mixed k src) w hu hv (by unfold PM.l; omega) (by omega) hs1 (by omega) (by rw [BM.mixed_length, hl, hlen]; unfold PM.l PM.w; omega)).mono fun e w' ⟨res, x, hres, he, hb, hr⟩ => ?_
  rw [hlen] at hres
  exact ⟨res, x, hres, he, Gr.ext_of hb, hr⟩
set_option maxHeartbeats 1000000 in
theorem partsOf_any (k j size : Nat) (v : Value) (src : List (List Nat)) (w : World) (h1 : 1 ≤ k) (h2 : k ≤ 40) (hj : j ≤ 255) (hs1 : 1 ≤ size) (hs2 : size ≤ 64) (hl : src.length = k) (hv : Rws w v src) (hT : Tab w) :
    Calls Tryd.prog 28 #[PV k (PM.s k) 2, .int .i64 j, .int .i64 size, v] w (PartsOut w k j size src) := by
  have hs7 := PM.s_le k h2
  have hL := prmL_any k (PM.s k) 2
  have hlk : (k : Int) + (PM.s k : Int) + 2 = (PM.l k : Int) := by unfold PM.l PM.w; omega
  rw [hlk] at hL
  have hl49 := PM.l_le k h2
  have HL := Lib.hid (fun w => hL w (by omega) (by omega))
  have HF := Lib.hid (fun w => firstEsis_any k w (by omega))
  have HM : Hid (∀ w v, Ints w v (SM.iota k) → Tab w → Calls Tryd.prog 42 #[PV k (PM.s k) 2, .int .i64 j, v] w (MadeRws w (SM.rows k j))) := fun w v hv hT => mat_some k j v (SM.iota k) w h1 h2 hj (SM.iota_ok k (by omega)) (by rw [SM.iota_length]; omega) hv hT
  have HS : Hid (∀ u v w, Rws w u (SM.rows k j) → Rws w v (BM.mixed k src) → Calls Tryd.prog 43 #[.int .i64 (PM.l k), .int .i64 size, u, v] w (PartsOut w k j size src)) := fun u v w hu hv => solve_of k j size u v src w h1 h2 hs1 hs2 hl hu hv
  have HO : Hid (∀ (w w' : World) e w0, w0.Extends w → PartsOut w k j size src e w' → PartsOut w0 k j size src e w') := fun w w' e w0 hx ⟨res, u, a, b, c, d⟩ => ⟨res, u, a, b, Gr.ext_trans hx c, d⟩
  have HOUT : Hid (∀ (w w' : World) e, PartsOut w k j size src e w' → ∃ u r, e = .returned (.tuple #[u, .int .i64 r])) := fun w w' e ⟨res, u, a, b, c, d⟩ => ⟨u, _, b⟩
  have HMX : Hid (List.replicate (PM.s k + 2) [] ++ src = BM.mixed k src) := rfl
  have HNM := Lib.hid (fun w => nils_mats w w.heap.size w.heap.size 59 (PM.s k + 2) (by omega) (Nat.le_refl _))
  have hmk := fun w => mkRowList (PM.s k + 2) (by omega) w
  rw [show ((PM.s k + 2 : Nat) : Int) = (PM.s k : Int) + 2 by omega] at hmk
  have HTB := Lib.hid hT
  have HV := Lib.hid hv
  have HSL := Lib.hid hl
  obtain ⟨a, cap, rfl, _⟩ := hv.slice
  clear hv hT hL hlk
  rw [hl]
  clear hl
  obtain ⟨i1, hi', hz0', hz1', hz2'⟩ := info_parts rowinfo
  have HI' := Lib.hid hi'; clear hi'
  have HZ0' := Lib.hid hz0'; clear hz0'
  have HZ1' := Lib.hid hz1'; clear hz1'
  have HZ2' := Lib.hid hz2'; clear hz2'
  generalize SM.rows k j = rs at *
  generalize BM.mixed k src = mx at *
  generalize PM.l k = L at *
  generalize PM.s k = S at *
  go_enter Tryd.func28, Tryd.ntmps28
  go_upto_region 1 with fail
  generalize hw1 : World.alloc w _ = w1
  have hx1 : w.Extends w1 := by subst hw1; exact prm_ext_alloc _ _
  have hp : PAt w1 w.heap.size k S 2 := by subst hw1; exact PAt.new w 56 k S 2
  generalize w.heap.size = b at hp ⊢
  clear hw1
  have HX1 := Lib.hid hx1
  have HP1 := Lib.hid hp
  clear hx1 hp
  obtain ⟨p0, p1, p2⟩ := HP1.out
  obtain ⟨vs, hown, hrows⟩ := HNM.out w1
  have hb1 := HX1.out.size
  have HOWN := Lib.hid hown
  have HROWS := Lib.hid hrows
  obtain ⟨us, hsrc, hus⟩ := HV.out.srcs_old (Gr.ext_trans HX1.out (ext_alloc w1 (.cells (madeCells #[.slice none 0 0] (S + 2)) 59))) (P := Tryd.prog) (tx := 51) Tryd.underlying51
  rw [HSL.out] at hsrc hus
  have HSRC := Lib.hid hsrc
  have HUS := Lib.hid hus
  clear hown hrows hsrc hus HNM
  go_wp2_with (at_builtin; refine wpList_append_own_src _ rfl _ _ 51 51 rfl w1.heap.size 59 i1 (.slice none 0 0) 1 24 Tryd.underlying51 HI'.out HZ0'.out HZ1'.out HZ2'.out rfl _ _ _ rfl HOWN.out _ k us rfl HSRC.out (by unfold maxLen; omega) (by omega) (by simp) ?_)
  intro v' w3 ho3 hg3 _
  have HX13 : Hid (w1.Extends w3) := Gr.ext_of (((Below.refl w1.heap.size w1).alloc (Nat.le_refl _) _).grown hg3 (by simp) (fun g hg => by simp only [Value.ownBlock, Option.some.injEq] at hg; omega))
  have HX3 := Lib.hid (Gr.ext_trans HX1.out HX13.out)
  have HP3 := Lib.hid (HP1.out.ext HX13.out)
  have HR3 : Hid (Rws w3 v' mx) := by
    have h := Mats.grow (Nat.le_refl _) (by decide) (by simp) HSL.out.symm HOWN.out HROWS.out (fun j hj => by obtain ⟨u, h3, h4⟩ := HUS.out j hj; exact ⟨u, h3, h4.mono hb1⟩) hg3 ho3
    rw [HMX.out] at h
    exact h.rws (by rw [← HMX.out, List.length_append, List.length_replicate, HSL.out])
  clear ho3 hg3 HOWN HROWS HUS HSRC HX1 HP1 HX13 p0 p1 p2 hmk
  go_wp2_with fail
  have HX4 := Lib.hid (Gr.ext_drew HX3.out)
  have HP4 := Lib.hid (HP3.out.ext (Gr.ext_drew (Gr.ext_refl w3)))
  have HR4 := Lib.hid (HR3.out.ext (Gr.ext_drew (Gr.ext_refl w3)))
  clear HX3 HP3 HR3
  refine Gr.region 13 [(false,0),(false,2),(false,3),(false,4),(false,5),(false,6),(false,9),(true,1),(true,7),(true,8),(true,10),(false,11),(false,12)] (by kernel_rfl) (by kernel_rfl) (fun d _ _ _ _ h => by cases d <;> exact h) ?_
  simp only [Gr.pick, List.getElem?_cons_zero, List.getElem?_cons_succ, List.drop_succ_cons, List.drop_zero]
  generalize w3.drew = w4 at *
  iterate 7
    refine Gr.walk_t ?_ (Or.inl ⟨by rfl, ?_⟩) ?_
    rotate_left
    · intro w' hw'
      obtain ⟨p0, p1, p2⟩ := HP4.out.ext hw'
      clear hw'
      go_simp
      try with_reducible rfl
    simp only [Act.put, List.setIfInBounds_toArray, List.set_cons_zero, List.set_cons_succ]
  refine Gr.walk_c (fun K hK => ?_)
  go_simp
  refine (HL.out w4).mono ?_
  rintro e w5 ⟨rfl, hx5⟩
  have HX5 := Lib.hid (Gr.ext_trans HX4.out hx5)
  have HR5 := Lib.hid (HR4.out.ext hx5)
  try go_simp
  refine hK.out _ _ (hx5) ?_
  clear hK K
  clear hx5 HX4 HR4 HP4
  refine Gr.walk_c (fun K hK => ?_)
  go_simp
  refine (HF.out w5).mono ?_
  rintro e w6 ⟨vi, rfl, hx6, hvi⟩
  have HX6 := Lib.hid (Gr.ext_trans HX5.out hx6)
  have HR6 := Lib.hid (HR5.out.ext hx6)
  have HVI := Lib.hid hvi
  try go_simp
  refine hK.out _ _ (hx6) ?_
  clear hK K
  clear hx6 HX5 HR5 hvi
  refine Gr.walk_c (fun K hK => ?_)
  go_simp
  refine (HM.out w6 vi HVI.out (HTB.out.ext HX6.out)).mono ?_
  rintro e w7 ⟨u7, rfl, hx7, hu7⟩
  have HX7 := Lib.hid (Gr.ext_trans HX6.out hx7)
  have HR7 := Lib.hid (HR6.out.ext hx7)
  have HU7 := Lib.hid (mats_rows hu7)
  try go_simp
  refine hK.out _ _ (hx7) ?_
  clear hK K
  clear hx7 HX6 HR6 hu7 HVI
  refine Gr.walk_c (fun K hK => ?_)
  go_simp
  refine (HS.out u7 v' w7 HU7.out HR7.out).mono ?_
  rintro e w8 ⟨res, x8, hres, rfl, hx8, hr8⟩
  have HP : Hid (PartsOut w k j size src (.returned (.tuple #[x8, .int .i64 (errOf res : Nat)])) w8) := ⟨res, x8, hres, rfl, Gr.ext_trans HX7.out hx8, hr8⟩
  try go_simp
  refine hK.out _ _ (hx8) ?_
  clear hK K
  clear hx8 HX7 HR7 HU7 hres hr8
  iterate 2
    refine Gr.walk_t ?_ (Or.inl ⟨by rfl, ?_⟩) ?_
    rotate_left
    · intro w' hw'
      clear hw'
      go_simp
      try with_reducible rfl
    simp only [Act.put, List.setIfInBounds_toArray, List.set_cons_zero, List.set_cons_succ]
  refine Gr.walk_nil ?_
  go_wp2
  go_returns
  exact HP.out
end Go.Proofs.YtippckajlghimaaDoor
/- Package block: New. -/
namespace Go.Proofs.YtippckajlghimaaDoor
set_option maxRecDepth 20000
open Go.RowKit Go.Deep
set_option linter.unusedVariables false
/-- A block laid at b; v: its parts. -/
def BAt (w : World) (b : Nat) (k s h j size : Int) (v : Value) : Prop :=
  w.cell? ⟨b, 0, none⟩ = some (.int .i64 k) ∧ w.cell? ⟨b, 1, none⟩ = some (.int .i64 s) ∧ w.cell? ⟨b, 2, none⟩ = some (.int .i64 h) ∧
  w.cell? ⟨b, 3, none⟩ = some (.int .i64 j) ∧ w.cell? ⟨b, 4, none⟩ = some (.int .i64 size) ∧ w.cell? ⟨b, 5, none⟩ = some v
theorem BAt.ext {w w' : World} {b : Nat} {k s h j size : Int} {v : Value} (hp : BAt w b k s h j size v) (hx : w.Extends w') : BAt w' b k s h j size v :=
  ⟨hx.cell_of hp.1, hx.cell_of hp.2.1, hx.cell_of hp.2.2.1, hx.cell_of hp.2.2.2.1, hx.cell_of hp.2.2.2.2.1, hx.cell_of hp.2.2.2.2.2⟩
theorem BAt.new (w : World) (T : TypeId) (k s h j size : Int) (v : Value) : BAt (w.alloc (.cells #[.int .i64 k, .int .i64 s, .int .i64 h, .int .i64 j, .int .i64 size, v] T)) w.heap.size k s h j size v := by
  have h0 := heap_alloc_new w (.cells #[.int .i64 k, .int .i64 s, .int .i64 h, .int .i64 j, .int .i64 size, v] T)
  exact ⟨by rw [cell_of_row _ _ _ _ _ _ h0]; rfl, by rw [cell_of_row _ _ _ _ _ _ h0]; rfl, by rw [cell_of_row _ _ _ _ _ _ h0]; rfl, by rw [cell_of_row _ _ _ _ _ _ h0]; rfl, by rw [cell_of_row _ _ _ _ _ _ h0]; rfl, by rw [cell_of_row _ _ _ _ _ _ h0]; rfl⟩
/-- No block, and why. -/
def NoBlock (w : World) (err : Int) (e : Ending) (w' : World) : Prop := e = .returned (.tuple #[.pointer none, .int .i64 err]) ∧ w.Extends w'
/-- A block of the call's own. -/
def BNew (w : World) (k j size : Nat) (c : List (List Nat)) (e : Ending) (w' : World) : Prop :=
  ∃ b v, e = .returned (.tuple #[.pointer (some ⟨b, 0, none⟩), .int .i64 0]) ∧ w.Extends w' ∧ BAt w' b k (PM.s k) 2 j size v ∧ Rws w' v c
theorem new_size (size : Int) (v : Value) (w : World) (h : size < 1 ∨ 64 < size) :
    Calls Tryd.prog 16 #[.int .i64 size, v] w (NoBlock w 1) := by
  have HP : Hid (NoBlock w 1 (.returned (.tuple #[.pointer none, .int .i64 1])) w) := ⟨rfl, Gr.ext_refl _⟩
  rcases h with h | h
  all_goals
    go_enter Tryd.func16, Tryd.ntmps16
    go_wp2
    go_returns
    exact HP.out
theorem new_count (size : Int) (a : Option Addr) (n cap : Nat) (w : World) (h1 : 1 ≤ size) (h2 : size ≤ 64) (h : n < 1 ∨ 40 < n) :
    Calls Tryd.prog 16 #[.int .i64 size, .slice a n cap] w (NoBlock w 1) := by
  have HO := Lib.hid (fun w => prmOf_bad (n : Int) w (by omega))
  clear h
  go_enter Tryd.func16, Tryd.ntmps16
  go_wp2_with fail
  refine (HO.out w).mono ?_
  rintro e w1 ⟨rfl, hx1⟩
  have HX1 := Lib.hid hx1
  clear hx1 HO
  go_wp2_with fail
  generalize hw2 : World.alloc w1 _ = w2
  have HP : Hid (NoBlock w 1 (.returned (.tuple #[.pointer none, .int .i64 1])) w2) := ⟨rfl, by subst hw2; exact Gr.ext_trans HX1.out (prm_ext_alloc _ _)⟩
  clear hw2
  go_returns
  exact HP.out
theorem new_rows (size : Int) (v : Value) (src : List (List Nat)) (k : Nat) (w : World) (h1 : 1 ≤ size) (h2 : size ≤ 64) (hk : src.length = k) (k1 : 1 ≤ k) (k2 : k ≤ 40) (hv : Rws w v src) (hn : ¬ AllB size src) :
    Calls Tryd.prog 16 #[.int .i64 size, v] w (NoBlock w 10) := by
  have HO := Lib.hid (fun w => prmOf_good k w k1 k2)
  have HA := Lib.hid (fun v w hv => allOf_any size v src w hv)
  have HV := Lib.hid hv
  have HN := Lib.hid hn
  obtain ⟨a, cap, rfl, _⟩ := hv.slice
  rw [hk] at HV ⊢
  clear hk hv hn
  generalize PM.s k = S at *
  go_enter Tryd.func16, Tryd.ntmps16
  go_wp2_with fail
  refine (HO.out w).mono ?_
  rintro e w1 ⟨rfl, hx1⟩
  have HX1 := Lib.hid hx1
  clear hx1 HO
  go_wp2_with fail
  generalize hw2 : World.alloc w1 _ = w2
  have HX2 : Hid (w.Extends w2) := by subst hw2; exact Gr.ext_trans HX1.out (prm_ext_alloc _ _)
  clear hw2
  refine (HA.out _ w2 (HV.out.ext HX2.out)).mono ?_
  rintro e w3 ⟨⟨b, rfl, hb⟩, hx3⟩
  cases b with
  | true => exact absurd (hb.1 rfl) HN.out
  | false =>
    have HP : Hid (NoBlock w 10 (.returned (.tuple #[.pointer none, .int .i64 10])) w3) := ⟨rfl, Gr.ext_trans HX2.out hx3⟩
    clear hb hx3
    go_wp2
    go_returns
    exact HP.out
theorem seed5 {k r er : Nat} (h : SM.SeedIs k r er) : er = 0 ∨ er = 5 := by
  rcases h with ⟨h, _⟩ | ⟨h, _⟩
  · exact .inl h
  · exact .inr h
set_option maxHeartbeats 1000000 in
theorem new_none (size : Int) (v : Value) (src : List (List Nat)) (k : Nat) (w : World) (h1 : 1 ≤ size) (h2 : size ≤ 64) (hk : src.length = k) (k1 : 1 ≤ k) (k2 : k ≤ 40) (hv : Rws w v src) (hn : AllB size src) (hT : Tab w) (r : Nat) (hs : SM.SeedIs k r 5) :
    Calls Tryd.prog 16 #[.int .i64 size, v] w (NoBlock w 5) := by
  have HO := Lib.hid (fun w => prmOf_good k w k1 k2)
  have HA := Lib.hid (fun v w hv => allOf_any size v src w hv)
  have HF : Hid (∀ w, Tab w → Calls Tryd.prog 27 #[.int .i64 k] w fun e w' => e = .returned (.tuple #[.int .i64 r, .int .i64 (5 : Nat)]) ∧ w.Extends w') := fun w hT =>
    (find_some k w k1 k2 hT).mono fun e w' ⟨r', er', he, hr', hx⟩ => by
      obtain ⟨rfl, rfl⟩ := hs.uniq hr'
      exact ⟨he, hx⟩
  have HT := Lib.hid hT
  have HV := Lib.hid hv
  have HN := Lib.hid hn
  obtain ⟨a, cap, rfl, _⟩ := hv.slice
  rw [hk] at HV ⊢
  clear hk hv hn hT hs
  generalize PM.s k = S at *
  go_enter Tryd.func16, Tryd.ntmps16
  go_wp2_with fail
  refine (HO.out w).mono ?_
  rintro e w1 ⟨rfl, hx1⟩
  have HX1 := Lib.hid hx1
  clear hx1 HO
  go_wp2_with fail
  generalize hw2 : World.alloc w1 _ = w2
  have hx2 : w1.Extends w2 := by subst hw2; exact prm_ext_alloc _ _
  have hp : PAt w2 w1.heap.size k S 2 := by subst hw2; exact PAt.new w1 56 k S 2
  generalize w1.heap.size = p at hp ⊢
  clear hw2
  have HX2 := Lib.hid (Gr.ext_trans HX1.out hx2)
  have HP2 := Lib.hid hp
  clear hx2 hp HX1
  refine (HA.out _ w2 (HV.out.ext HX2.out)).mono ?_
  rintro e w3 ⟨⟨b, rfl, hb⟩, hx3⟩
  cases b with
  | false => exact absurd (hb.2 HN.out) (by decide)
  | true =>
    have HX3 := Lib.hid (Gr.ext_trans HX2.out hx3)
    have HP3 := Lib.hid (HP2.out.ext hx3)
    clear hb hx3 HX2 HP2
    obtain ⟨p0, p1, p2⟩ := HP3.out
    go_wp2_with fail
    refine (HF.out w3 (HT.out.ext HX3.out)).mono ?_
    rintro e w4 ⟨rfl, hx4⟩
    have HP : Hid (NoBlock w 5 (.returned (.tuple #[.pointer none, .int .i64 5])) w4) := ⟨rfl, Gr.ext_trans HX3.out hx4⟩
    clear hx4 p0 p1 p2
    go_wp2
    go_returns
    exact HP.out
set_option maxHeartbeats 1000000 in
theorem new_some (size : Nat) (v : Value) (src : List (List Nat)) (k : Nat) (w : World) (h1 : 1 ≤ size) (h2 : size ≤ 64) (hk : src.length = k) (k1 : 1 ≤ k) (k2 : k ≤ 40) (hv : Rws w v src) (hn : AllB size src) (hT : Tab w) (j : Nat) (hs : SM.SeedIs k j 0) (c : List (List Nat)) (hc : BM.PartsIs k j size src c) :
    Calls Tryd.prog 16 #[.int .i64 size, v] w (BNew w k j size c) := by
  have hj := hs.lt
  have HO := Lib.hid (fun w => prmOf_good k w k1 k2)
  have HA := Lib.hid (fun v w hv => allOf_any size v src w hv)
  have HF : Hid (∀ w, Tab w → Calls Tryd.prog 27 #[.int .i64 k] w fun e w' => e = .returned (.tuple #[.int .i64 j, .int .i64 (0 : Nat)]) ∧ w.Extends w') := fun w hT =>
    (find_some k w k1 k2 hT).mono fun e w' ⟨r', er', he, hr', hx⟩ => by
      obtain ⟨rfl, rfl⟩ := hs.uniq hr'
      exact ⟨he, hx⟩
  have hg : SM.Good k j := by
    rcases hs with ⟨_, _, h, _⟩ | ⟨h, _⟩
    · exact h
    · cases h
  have HPT : Hid (∀ v w, Rws w v src → Tab w → Calls Tryd.prog 28 #[PV k (PM.s k) 2, .int .i64 j, .int .i64 size, v] w fun e w' => ∃ u, e = .returned (.tuple #[u, .int .i64 ((0 : Nat) : Int)]) ∧ w.Extends w' ∧ Rws w' u c) := fun v w hv hT =>
    (partsOf_any k j size v src w k1 k2 (by omega) h1 h2 hk hv hT).mono fun e w' ⟨res, u, hres, he, hx, hr⟩ => by
      obtain ⟨c', rfl, hc'⟩ := BM.res_some hg hv.all_lt hres
      rw [BM.PartsIs.uniq hv.all_lt hc hc']
      exact ⟨u, he, hx, hr⟩
  have HOUT : Hid (∀ b v (w' : World), w.Extends w' → BAt w' b k (PM.s k) 2 j size v → Rws w' v c → BNew w k j size c (.returned (.tuple #[.pointer (some ⟨b, 0, none⟩), .int .i64 0])) w') := fun b v w' hx hb hr => ⟨b, v, rfl, hx, hb, hr⟩
  have HT := Lib.hid hT
  have HV := Lib.hid hv
  have HN := Lib.hid hn
  obtain ⟨a, cap, rfl, _⟩ := hv.slice
  rw [hk] at HV ⊢
  clear hk hv hn hT hs hc hg
  generalize PM.s k = S at *
  go_enter Tryd.func16, Tryd.ntmps16
  go_wp2_with fail
  refine (HO.out w).mono ?_
  rintro e w1 ⟨rfl, hx1⟩
  have HX1 := Lib.hid hx1
  clear hx1 HO
  go_wp2_with fail
  generalize hw2 : World.alloc w1 _ = w2
  have hx2 : w1.Extends w2 := by subst hw2; exact prm_ext_alloc _ _
  have hp : PAt w2 w1.heap.size k S 2 := by subst hw2; exact PAt.new w1 56 k S 2
  generalize w1.heap.size = p at hp ⊢
  clear hw2
  have HX2 := Lib.hid (Gr.ext_trans HX1.out hx2)
  have HP2 := Lib.hid hp
  clear hx2 hp HX1
  refine (HA.out _ w2 (HV.out.ext HX2.out)).mono ?_
  rintro e w3 ⟨⟨b, rfl, hb⟩, hx3⟩
  cases b with
  | false => exact absurd (hb.2 HN.out) (by decide)
  | true =>
    have HX3 := Lib.hid (Gr.ext_trans HX2.out hx3)
    have HP3 := Lib.hid (HP2.out.ext hx3)
    clear hb hx3 HX2 HP2
    obtain ⟨p0, p1, p2⟩ := HP3.out
    go_wp2_with fail
    refine (HF.out w3 (HT.out.ext HX3.out)).mono ?_
    rintro e w4 ⟨rfl, hx4⟩
    have HX4 := Lib.hid (Gr.ext_trans HX3.out hx4)
    have HP4 := Lib.hid (HP3.out.ext hx4)
    clear hx4 HX3 HP3 p0 p1 p2
    obtain ⟨p0, p1, p2⟩ := HP4.out
    go_wp2_with fail
    refine (HPT.out _ w4 (HV.out.ext HX4.out) (HT.out.ext HX4.out)).mono ?_
    rintro e w5 ⟨u, rfl, hx5, hu⟩
    have HX5 := Lib.hid (Gr.ext_trans HX4.out hx5)
    have HP5 := Lib.hid (HP4.out.ext hx5)
    have HU5 := Lib.hid hu
    obtain ⟨ua, uc, rfl, _⟩ := hu.slice
    clear hx5 HX4 HP4 p0 p1 p2 hu
    obtain ⟨p0, p1, p2⟩ := HP5.out
    go_wp2_with fail
    generalize hw6 : World.alloc w5 _ = w6
    have hx6 : w5.Extends w6 := by subst hw6; exact prm_ext_alloc _ _
    have HP := Lib.hid (HOUT.out w5.heap.size _ w6 (Gr.ext_trans HX5.out hx6) (by subst hw6; exact BAt.new w5 58 k S 2 j size _) (HU5.out.ext hx6))
    clear hw6 hx6
    go_returns
    exact HP.out
end Go.Proofs.YtippckajlghimaaDoor
