/- In one text: GrowL, Near1, GrowR, LokLess, LokSwap, LokMeth. -/
import Derived.ChangeKeysEq
import Derived.Test.YtgjnkfbckbkcnaaMA1
import Derived.Test.YtgjnkfbckbkcnaaMA2
import Derived.Test.YtgjnkfbckbkcnaaMA3
namespace Go.Proofs.Ytgjnkfbckbkcnaa
set_option maxRecDepth 20000
open Go.RowKit
namespace GrL
open Gr (AnyE check growB pick)
section
variable {P : Program} {ops : Array Oper} {Q : Exit → Act → World → Prop} {md : Region.Mode} {S : World → Prop}
variable {B : Nat}
open Gr (checkTo lists)
/-! Where more than one operation that is carried out may come up: the walk goes a step at a time. -/
/-- What is left: 'f' operations of the head, then the tail. -/
def Left (B : Nat) (P : Program) (l : List Oper) (Q : Exit → Act → World → Prop) (n f : Nat) (listed : Array Bool) (a : Act) (w : World) : Prop :=
  HeadInv .any l.toArray n listed → AnyE P .any l.toArray Q n (fun listed' a' w' => Region.seqB .any l.toArray (l.toArray.size - n) n listed' = true ∧ wpList P l.toArray Q (l.drop n) a' w') (Below B w) f listed a w
theorem Left.done {l : List Oper} {n : Nat} {listed : Array Bool} {a : Act} {w : World} (hB : Region.seqB .any l.toArray (l.toArray.size - n) n listed = true) (h : wpList P l.toArray Q (l.drop n) a w) : Left B P l Q n 0 listed a w := fun _ => ⟨hB, h⟩
theorem Left.take {l : List Oper} {n f i : Nat} {o : Oper} {listed : Array Bool} {a : Act} {w : World} (hi : l[i]? = some o)
    (hk : (Region.noSelect l.toArray && decide (n < l.toArray.size) && Region.sinkB .any l.toArray n && Region.chainB .any l.toArray n && decide (i < n) && (Region.ready .any l.toArray listed).contains i && Region.free .any l.toArray listed i) = true)
    (hQ : ∀ d v c a w, Q (.panic c) (Act.put a d v) w → Q (.panic c) a w) (v : Value) (hy : YieldsIf P l.toArray (Below B w) o v a)
    (h : Left B P l Q n f (listed.setIfInBounds i true) (a.put o.dst v) w) : Left B P l Q n (f + 1) listed a w := fun inv => by
  simp only [Bool.and_eq_true, decide_eq_true_eq] at hk
  obtain ⟨⟨⟨⟨⟨⟨hsel, hn⟩, hs⟩, hc⟩, hin⟩, hr⟩, hf⟩ := hk
  have hoa : l.toArray[i]? = some o := by simpa using hi
  have hrm : i ∈ Region.ready .any l.toArray listed := by simpa using hr
  exact AnyE.first hoa (Region.noSelect_spec hsel) hs hc hn hin (fun c a w => hQ _ v c a w) (fun listed' a' w' hL => seqB_ready hL.1) f listed a w inv (Region.free_spec hoa hf) hrm hy (Below.refl B w) (h (inv.set hrm hin))
/-- One step of an operation that is carried out. -/
def Step (B : Nat) (P : Program) (l : List Oper) (Q : Exit → Act → World → Prop) (n f i : Nat) (listed : Array Bool) (a : Act) (w : World) : Prop :=
  ∀ o, l[i]? = some o → ∀ K : Act → World → Prop, Shut (∀ a' w', Below B w w' → Left B P l Q n f (listed.setIfInBounds i true) a' w' → K a' w') → if Region.wanted o (yielded l.toArray a.tmps) = true then o.wp P a w K Q else K (a.put o.dst undef) w
theorem Step.mk {l : List Oper} {n f i : Nat} {o : Oper} {listed : Array Bool} {a : Act} {w : World} (hi : l[i]? = some o)
    (h : ∀ K : Act → World → Prop, Shut (∀ a' w', Below B w w' → Left B P l Q n f (listed.setIfInBounds i true) a' w' → K a' w') → if Region.wanted o (yielded l.toArray a.tmps) = true then o.wp P a w K Q else K (a.put o.dst undef) w) : Step B P l Q n f i listed a w := fun o' ho' => by
  rw [hi] at ho'; cases ho'; exact h
theorem Left.some {l : List Oper} {n f : Nat} {rs : List Nat} {listed : Array Bool} {a : Act} {w : World} (hr : Region.ready .any l.toArray listed = rs) (hne : (!rs.isEmpty && rs.all (· < n) && rs.all (· < l.length)) = true)
    (h : ∀ i ∈ rs, Step B P l Q n f i listed a w) : Left B P l Q n (f + 1) listed a w := fun inv => by
  simp only [Bool.and_eq_true, List.all_eq_true, decide_eq_true_eq] at hne
  refine ⟨(by rw [hr]; intro h0; rw [h0] at hne; simp at hne), fun j hj => ?_⟩
  have hjr : j ∈ rs := hr ▸ hj
  refine ⟨hne.1.2 j hjr, ?_⟩
  have hjl := hne.2 j hjr
  have hoa : l.toArray[j]? = Option.some l[j] := by simp
  have h0 := h j hjr l[j] (List.getElem?_eq_getElem hjl) (fun a' w' => Below B w w' ∧ Left B P l Q n f (listed.setIfInBounds j true) a' w') (fun _ _ h1 h2 => ⟨h1, h2⟩)
  have hinv := inv.set hj (hne.1.2 j hjr)
  have fin : ∀ a' w', Below B w w' ∧ Left B P l Q n f (listed.setIfInBounds j true) a' w' → Below B w w' ∧ AnyE P .any l.toArray Q n _ (Below B w) f (listed.setIfInBounds j true) a' w' :=
    fun a' w' hk => ⟨hk.1, AnyE.weaken (fun u hu => hk.1.trans hu) _ _ _ _ (hk.2 hinv)⟩
  unfold wpOp
  simp only [hoa]
  split
  · rename_i hw; rw [if_pos hw] at h0; exact .inl (Oper.wp_mono fin h0)
  · rename_i hw; rw [if_neg hw] at h0; exact fin _ _ h0
theorem Left.one {l : List Oper} {n f i : Nat} {listed : Array Bool} {a : Act} {w : World} (hr : Region.ready .any l.toArray listed = [i]) (hne : (decide (i < n) && decide (i < l.length)) = true)
    (h : Step B P l Q n f i listed a w) : Left B P l Q n (f + 1) listed a w :=
  Left.some hr (by simpa using hne) (fun j hj => by obtain rfl : j = i := by simpa using hj
                                                    exact h)
theorem Left.two {l : List Oper} {n f i j : Nat} {listed : Array Bool} {a : Act} {w : World} (hr : Region.ready .any l.toArray listed = [i, j]) (hne : (decide (i < n) && decide (i < l.length) && decide (j < n) && decide (j < l.length)) = true)
    (h1 : Step B P l Q n f i listed a w) (h2 : Step B P l Q n f j listed a w) : Left B P l Q n (f + 1) listed a w :=
  Left.some hr (by simp only [Bool.and_eq_true, decide_eq_true_eq] at hne; simp; omega) (fun k hk => by
    simp only [List.mem_cons, List.not_mem_nil, or_false] at hk
    rcases hk with rfl | rfl
    · exact h1
    · exact h2)
def walkE (B : Nat) (P : Program) (ops : Array Oper) (Q : Exit → Act → World → Prop) (E : Act → World → Prop) : List (Bool × Oper) → Act → World → Prop
  | [], a, w => E a w
  | (true, o) :: rest, a, w => if Region.wanted o (yielded ops a.tmps) = true then o.wp P a w (fun a' w' => Below B w w' ∧ walkE B P ops Q E rest a' w') Q else walkE B P ops Q E rest (a.put o.dst undef) w
  | (false, o) :: rest, a, w => ∃ v, YieldsIf P ops (Below B w) o v a ∧ walkE B P ops Q E rest (a.put o.dst v) w
theorem walkE_nil {E : Act → World → Prop} {a : Act} {w : World} (h : E a w) : walkE B P ops Q E [] a w := h
theorem walkE_t {E : Act → World → Prop} {rest : List (Bool × Oper)} {o : Oper} {a : Act} {w : World} (v : Value) (hy : YieldsIf P ops (Below B w) o v a) (h : walkE B P ops Q E rest (a.put o.dst v) w) :
    walkE B P ops Q E ((false, o) :: rest) a w := ⟨v, hy, h⟩
theorem walkE_sound {l : List Oper} {n g : Nat} (hsel : Region.noSelect l.toArray = true) (hs : Region.sinkB .any l.toArray n = true) (hc : Region.chainB .any l.toArray n = true) (hn : n < l.toArray.size)
    (hQ : ∀ d v c a w, Q (.panic c) (Act.put a d v) w → Q (.panic c) a w) :
    ∀ (ord : List (Bool × Nat)) (listed : Array Bool) (a : Act) (w : World), checkTo .any l.toArray n ord listed = true →
      walkE B P l.toArray Q (Left B P l Q n g (lists ord listed)) (pick l ord) a w → Left B P l Q n (ord.length + g) listed a w
  | [], listed, a, w, _, h => by rw [List.length_nil, Nat.zero_add]; exact h
  | (c, i) :: rest, listed, a, w, hB, h => fun inv => by
    simp only [checkTo, Bool.and_eq_true, decide_eq_true_eq] at hB
    obtain ⟨⟨hin, hr⟩, hB'⟩ := hB
    have hil : i < l.length := by have : l.toArray.size = l.length := by simp
                                  omega
    have ho : l[i]? = Option.some l[i] := List.getElem?_eq_getElem hil
    have hoa : l.toArray[i]? = Option.some l[i] := by simp
    have hlen : ((c, i) :: rest).length + g = (rest.length + g) + 1 := by simp; omega
    rw [hlen]
    simp only [pick, ho] at h
    cases c with
    | true =>
      simp only [decide_eq_true_eq] at hr
      refine ⟨(by rw [hr]; simp), fun j hj => ?_⟩
      rw [hr] at hj
      obtain rfl : j = i := by simpa using hj
      refine ⟨hin, ?_⟩
      have hrm : j ∈ Region.ready .any l.toArray listed := by rw [hr]; simp
      unfold walkE at h
      unfold wpOp
      simp only [hoa]
      split
      · rename_i hw
        rw [if_pos hw] at h
        exact .inl (Oper.wp_mono (fun a' w' hk => ⟨hk.1, AnyE.weaken (fun u hu => hk.1.trans hu) _ _ _ _ (walkE_sound hsel hs hc hn hQ rest _ a' w' hB' hk.2 (inv.set hrm hin))⟩) h)
      · rename_i hw
        rw [if_neg hw] at h
        exact ⟨Below.refl B w, walkE_sound hsel hs hc hn hQ rest _ _ w hB' h (inv.set hrm hin)⟩
    | false =>
      simp only [Bool.and_eq_true] at hr
      unfold walkE at h
      obtain ⟨v, hy, hK⟩ := h
      have hrm : i ∈ Region.ready .any l.toArray listed := by simpa using hr.1
      exact AnyE.first hoa (Region.noSelect_spec hsel) hs hc hn hin (fun c a w => hQ _ v c a w) (fun listed' a' w' hL => seqB_ready hL.1) (rest.length + g) listed a w inv (Region.free_spec hoa hr.2) hrm hy (Below.refl B w)
        (walkE_sound hsel hs hc hn hQ rest _ _ w hB' hK (inv.set hrm hin))
theorem regionE {id : Nat} {a : Act} {w : World} {l : List Oper} (n g : Nat) (ord : List (Bool × Nat)) (hm : P.follows .mixedOrders = true)
    (hB : (Region.noSelect l.toArray && decide (n < l.toArray.size) && Region.sinkB .any l.toArray n && Region.chainB .any l.toArray n && decide (ord.length + g = n) && checkTo .any l.toArray n ord (Array.replicate l.toArray.size false)) = true)
    (hQ : ∀ d v c a w, Q (.panic c) (Act.put a d v) w → Q (.panic c) a w)
    (h : walkE B P l.toArray Q (Left B P l Q n g (lists ord (Array.replicate l.toArray.size false))) (pick l ord) a w.drew) : (Code.region id l.toArray true).wp P Q a w := by
  simp only [Bool.and_eq_true, decide_eq_true_eq] at hB
  obtain ⟨⟨⟨⟨⟨hsel, hn⟩, hs⟩, hc⟩, hlen⟩, hck⟩ := hB
  have hdl : (l.drop n).length = l.toArray.size - n := by simp
  have inv0 : HeadInv .any l.toArray n (Array.replicate l.toArray.size false) :=
    ⟨by simp, fun j oj _ hl => (by rw [getD_replicate_false] at hl; cases hl), fun t _ ht => getD_in (by simpa using ht) (getD_replicate_false _ _)⟩
  have H := walkE_sound hsel hs hc hn hQ ord _ a w.drew hck h inv0
  refine wp_region_any hm ?_
  have := AnyE.any (Q := Q) (g := l.toArray.size - n) (fun listed a' w' hL => by
    have := wpAny_of_seq (md := .any) (Q' := Q) (l.drop n) n listed a' w' (fun j => by simp [List.getElem?_drop]) (by rw [hdl]; exact hL.1) hL.2
    rwa [hdl] at this) _ _ _ _ H
  rw [hlen, show n + (l.toArray.size - n) = l.toArray.size by omega] at this
  exact this
end
end GrL
end Go.Proofs.Ytgjnkfbckbkcnaa
namespace Go.Proofs.Ytgjnkfbckbkcnaa
set_option maxRecDepth 20000
open Go.RowKit Go.Deep
set_option linter.unusedVariables false
theorem key_yields {w : World} {b : Nat} {k : List Nat} (h : KAt w b k) (hl : k.length = 20) {a : Act} {o : Oper} {x : Operand} (ho : o.op = .load 23 x) (hx : a.eval x = .pointer (some ⟨b, 0, none⟩)) {v : Value} (hv : KV k = v) :
    (execOp a.eval o).run Try.prog w = .ok (.value v) w := by subst hv; exact h.yields hl ho hx
set_option maxHeartbeats 4000000 in
theorem rnear1_any (K : List Nat) (a b : Int) (w : World) (hK : KY.Ok K) :
    Calls Try.prog 24 #[KV K, .int .i64 a, .int .i64 b] w fun e w' => e = .returned (.bool (KY.lt (far K a) (far K b))) ∧ w.Extends w' := by
  have HK1 : Hid (∀ w v, Ints w v [a] → Calls Try.prog 35 #[v] w fun e w' => e = .returned (KV (KY.of [a])) ∧ w.Extends w') := fun w v h => rkof_any w h
  have HK2 : Hid (∀ w v, Ints w v [b] → Calls Try.prog 35 #[v] w fun e w' => e = .returned (KV (KY.of [b])) ∧ w.Extends w') := fun w v h => rkof_any w h
  have HD1 : Hid (∀ w, Calls Try.prog 34 #[KV (KY.of [a]), KV K] w fun e w' => e = .returned (KV (far K a)) ∧ w.Extends w') := fun w => rkdist_any (KY.of_ok _) hK w
  have HD2 : Hid (∀ w, Calls Try.prog 34 #[KV (KY.of [b]), KV K] w fun e w' => e = .returned (KV (far K b)) ∧ w.Extends w') := fun w => rkdist_any (KY.of_ok _) hK w
  have HL : Hid (∀ w, Calls Try.prog 33 #[KV (far K a), KV (far K b)] w fun e w' => e = .returned (.bool (KY.lt (far K a) (far K b))) ∧ w.Extends w') := fun w => rkless_any (far_ok hK a) (far_ok hK b) w
  obtain ⟨s, hs⟩ : ∃ s, w.heap.size = s := ⟨_, rfl⟩
  have HBOX : Hid (∀ w1, w1 = w.alloc (.cells (KC K) 23) → w.Extends w1 ∧ KAt w1 s K) := fun w1 e => by
    subst e; subst hs
    exact ⟨ext_alloc _ _, KAt.new w hK.1⟩
  have HLK := Lib.hid hK.1
  obtain ⟨xk, hxk⟩ : ∃ x, KV K = x := ⟨_, rfl⟩
  have HXK := Lib.hid hxk
  rw [hxk] at HD1 HD2
  generalize KY.lt (far K a) (far K b) = q at *
  generalize KV (far K a) = y1 at *
  generalize KV (far K b) = y2 at *
  generalize KV (KY.of [a]) = x1 at *
  generalize KV (KY.of [b]) = x2 at *
  clear hxk hK
  go_enter Try.func24, Try.ntmps24
  go_upto_region 1 with fail
  generalize hw1 : World.alloc w _ = w1
  obtain ⟨hx1, hk1⟩ := HBOX.out w1 hw1.symm
  have HX1 := Lib.hid hx1
  have HKA := Lib.hid hk1
  clear hw1 HBOX hx1 hk1 hs
  refine Gr.regionE 11 7 [(false,0),(false,3),(false,5),(false,8)] (by kernel_rfl) (by kernel_rfl) (fun d _ _ _ _ h => by cases d <;> exact h) ?_
  simp only [Gr.pick, List.getElem?_cons_zero, List.getElem?_cons_succ]
  generalize hwd0 : w1.drew = wd
  have HX0 : Hid (w1.Extends wd) := by rw [← hwd0]; exact Gr.ext_drew (Gr.ext_refl w1)
  have HX : Hid (w.Extends wd) := Gr.ext_trans HX1.out HX0.out
  clear hwd0
  refine Gr.walkE_t ?_ (Or.inl ⟨by rfl, ?_⟩) ?_
  rotate_left
  · intro w' hw'
    clear hw'
    go_simp
    try with_reducible rfl
  simp only [Act.put, List.setIfInBounds_toArray, List.set_cons_zero, List.set_cons_succ]
  refine Gr.walkE_t _ (Or.inl ⟨by rfl, fun w' hw' => key_yields (HKA.out.ext (Gr.ext_trans HX0.out hw')) HLK.out (by rfl) (by rfl) (by exact HXK.out)⟩) ?_
  simp only [Act.put, List.setIfInBounds_toArray, List.set_cons_zero, List.set_cons_succ]
  refine Gr.walkE_t ?_ (Or.inl ⟨by rfl, ?_⟩) ?_
  rotate_left
  · intro w' hw'
    clear hw'
    go_simp
    try with_reducible rfl
  simp only [Act.put, List.setIfInBounds_toArray, List.set_cons_zero, List.set_cons_succ]
  refine Gr.walkE_t _ (Or.inl ⟨by rfl, fun w' hw' => key_yields (HKA.out.ext (Gr.ext_trans HX0.out hw')) HLK.out (by rfl) (by rfl) (by exact HXK.out)⟩) ?_
  simp only [Act.put, List.setIfInBounds_toArray, List.set_cons_zero, List.set_cons_succ]
  refine Gr.walkE_nil ?_
  refine Gr.Left.two (i := 1) (j := 6) (by kernel_rfl) (by kernel_rfl) (Gr.Step.mk rfl (fun K hK => ?_)) (Gr.Step.mk rfl (fun K hK => ?_))
  · skip
    go_simp
    generalize hw : World.alloc _ _ = w1_
    have hx : wd.Extends w1_ := by subst hw; exact ext_alloc _ _
    have I70 : Ints w1_ (.slice (some ⟨wd.heap.size, 0, none⟩) 1 1) [a] := by subst hw; exact ints_one wd a 3
    clear hw
    refine hK.out _ _ hx ?_
    clear hK K
    have I7 := Lib.hid I70
    clear I70
    have HX := Lib.hid (Gr.ext_trans HX.out hx)
    clear hx
    refine Gr.Left.two (i := 2) (j := 6) (by kernel_rfl) (by kernel_rfl) (Gr.Step.mk rfl (fun K hK => ?_)) (Gr.Step.mk rfl (fun K hK => ?_))
    · skip
      go_simp
      refine (HK1.out _ _ I7.out).mono ?_
      rintro e w2_ ⟨rfl, hx⟩
      try go_simp
      refine hK.out _ _ hx ?_
      clear hK K
      clear I7
      have HX := Lib.hid (Gr.ext_trans HX.out hx)
      clear hx
      refine Gr.Left.two (i := 4) (j := 6) (by kernel_rfl) (by kernel_rfl) (Gr.Step.mk rfl (fun K hK => ?_)) (Gr.Step.mk rfl (fun K hK => ?_))
      · skip
        go_simp
        refine (HD1.out _).mono ?_
        rintro e w3_ ⟨rfl, hx⟩
        try go_simp
        refine hK.out _ _ hx ?_
        clear hK K
        have HX := Lib.hid (Gr.ext_trans HX.out hx)
        clear hx
        refine Gr.Left.one (i := 6) (by kernel_rfl) (by kernel_rfl) (Gr.Step.mk rfl (fun K hK => ?_))
        go_simp
        generalize hw : World.alloc _ _ = w4_
        have hx : w3_.Extends w4_ := by subst hw; exact ext_alloc _ _
        have I130 : Ints w4_ (.slice (some ⟨w3_.heap.size, 0, none⟩) 1 1) [b] := by subst hw; exact ints_one w3_ b 3
        clear hw
        refine hK.out _ _ hx ?_
        clear hK K
        have I13 := Lib.hid I130
        clear I130
        have HX := Lib.hid (Gr.ext_trans HX.out hx)
        clear hx
        refine Gr.Left.one (i := 7) (by kernel_rfl) (by kernel_rfl) (Gr.Step.mk rfl (fun K hK => ?_))
        go_simp
        refine (HK2.out _ _ I13.out).mono ?_
        rintro e w5_ ⟨rfl, hx⟩
        try go_simp
        refine hK.out _ _ hx ?_
        clear hK K
        clear I13
        have HX := Lib.hid (Gr.ext_trans HX.out hx)
        clear hx
        refine Gr.Left.one (i := 9) (by kernel_rfl) (by kernel_rfl) (Gr.Step.mk rfl (fun K hK => ?_))
        go_simp
        refine (HD2.out _).mono ?_
        rintro e w6_ ⟨rfl, hx⟩
        try go_simp
        refine hK.out _ _ hx ?_
        clear hK K
        have HX := Lib.hid (Gr.ext_trans HX.out hx)
        clear hx
        refine Gr.Left.one (i := 10) (by kernel_rfl) (by kernel_rfl) (Gr.Step.mk rfl (fun K hK => ?_))
        go_simp
        refine (HL.out _).mono ?_
        rintro e w7_ ⟨rfl, hx⟩
        try go_simp
        refine hK.out _ _ hx ?_
        clear hK K
        have HX := Lib.hid (Gr.ext_trans HX.out hx)
        clear hx
        refine Gr.Left.done (by kernel_rfl) ?_
        simp only [List.drop_succ_cons, List.drop_zero]
        go_wp2
        go_ret
        exact ⟨rfl, HX.out⟩
      · skip
        go_simp
        generalize hw : World.alloc _ _ = w8_
        have hx : w2_.Extends w8_ := by subst hw; exact ext_alloc _ _
        have I130 : Ints w8_ (.slice (some ⟨w2_.heap.size, 0, none⟩) 1 1) [b] := by subst hw; exact ints_one w2_ b 3
        clear hw
        refine hK.out _ _ hx ?_
        clear hK K
        have I13 := Lib.hid I130
        clear I130
        have HX := Lib.hid (Gr.ext_trans HX.out hx)
        clear hx
        refine Gr.Left.one (i := 4) (by kernel_rfl) (by kernel_rfl) (Gr.Step.mk rfl (fun K hK => ?_))
        go_simp
        refine (HD1.out _).mono ?_
        rintro e w9_ ⟨rfl, hx⟩
        try go_simp
        refine hK.out _ _ hx ?_
        clear hK K
        have I13 := Lib.hid (I13.out.ext hx)
        have HX := Lib.hid (Gr.ext_trans HX.out hx)
        clear hx
        refine Gr.Left.one (i := 7) (by kernel_rfl) (by kernel_rfl) (Gr.Step.mk rfl (fun K hK => ?_))
        go_simp
        refine (HK2.out _ _ I13.out).mono ?_
        rintro e w10_ ⟨rfl, hx⟩
        try go_simp
        refine hK.out _ _ hx ?_
        clear hK K
        clear I13
        have HX := Lib.hid (Gr.ext_trans HX.out hx)
        clear hx
        refine Gr.Left.one (i := 9) (by kernel_rfl) (by kernel_rfl) (Gr.Step.mk rfl (fun K hK => ?_))
        go_simp
        refine (HD2.out _).mono ?_
        rintro e w11_ ⟨rfl, hx⟩
        try go_simp
        refine hK.out _ _ hx ?_
        clear hK K
        have HX := Lib.hid (Gr.ext_trans HX.out hx)
        clear hx
        refine Gr.Left.one (i := 10) (by kernel_rfl) (by kernel_rfl) (Gr.Step.mk rfl (fun K hK => ?_))
        go_simp
        refine (HL.out _).mono ?_
        rintro e w12_ ⟨rfl, hx⟩
        try go_simp
        refine hK.out _ _ hx ?_
        clear hK K
        have HX := Lib.hid (Gr.ext_trans HX.out hx)
        clear hx
        refine Gr.Left.done (by kernel_rfl) ?_
        simp only [List.drop_succ_cons, List.drop_zero]
        go_wp2
        go_ret
        exact ⟨rfl, HX.out⟩
    · skip
      go_simp
      generalize hw : World.alloc _ _ = w13_
      have hx : w1_.Extends w13_ := by subst hw; exact ext_alloc _ _
      have I130 : Ints w13_ (.slice (some ⟨w1_.heap.size, 0, none⟩) 1 1) [b] := by subst hw; exact ints_one w1_ b 3
      clear hw
      refine hK.out _ _ hx ?_
      clear hK K
      have I7 := Lib.hid (I7.out.ext hx)
      have I13 := Lib.hid I130
      clear I130
      have HX := Lib.hid (Gr.ext_trans HX.out hx)
      clear hx
      refine Gr.Left.one (i := 2) (by kernel_rfl) (by kernel_rfl) (Gr.Step.mk rfl (fun K hK => ?_))
      go_simp
      refine (HK1.out _ _ I7.out).mono ?_
      rintro e w14_ ⟨rfl, hx⟩
      try go_simp
      refine hK.out _ _ hx ?_
      clear hK K
      clear I7
      have I13 := Lib.hid (I13.out.ext hx)
      have HX := Lib.hid (Gr.ext_trans HX.out hx)
      clear hx
      refine Gr.Left.one (i := 4) (by kernel_rfl) (by kernel_rfl) (Gr.Step.mk rfl (fun K hK => ?_))
      go_simp
      refine (HD1.out _).mono ?_
      rintro e w15_ ⟨rfl, hx⟩
      try go_simp
      refine hK.out _ _ hx ?_
      clear hK K
      have I13 := Lib.hid (I13.out.ext hx)
      have HX := Lib.hid (Gr.ext_trans HX.out hx)
      clear hx
      refine Gr.Left.one (i := 7) (by kernel_rfl) (by kernel_rfl) (Gr.Step.mk rfl (fun K hK => ?_))
      go_simp
      refine (HK2.out _ _ I13.out).mono ?_
      rintro e w16_ ⟨rfl, hx⟩
      try go_simp
      refine hK.out _ _ hx ?_
      clear hK K
      clear I13
      have HX := Lib.hid (Gr.ext_trans HX.out hx)
      clear hx
      refine Gr.Left.one (i := 9) (by kernel_rfl) (by kernel_rfl) (Gr.Step.mk rfl (fun K hK => ?_))
      go_simp
      refine (HD2.out _).mono ?_
      rintro e w17_ ⟨rfl, hx⟩
      try go_simp
      refine hK.out _ _ hx ?_
      clear hK K
      have HX := Lib.hid (Gr.ext_trans HX.out hx)
      clear hx
      refine Gr.Left.one (i := 10) (by kernel_rfl) (by kernel_rfl) (Gr.Step.mk rfl (fun K hK => ?_))
      go_simp
      refine (HL.out _).mono ?_
      rintro e w18_ ⟨rfl, hx⟩
      try go_simp
      refine hK.out _ _ hx ?_
      clear hK K
      have HX := Lib.hid (Gr.ext_trans HX.out hx)
      clear hx
      refine Gr.Left.done (by kernel_rfl) ?_
      simp only [List.drop_succ_cons, List.drop_zero]
      go_wp2
      go_ret
      exact ⟨rfl, HX.out⟩
  · skip
    go_simp
    generalize hw : World.alloc _ _ = w19_
    have hx : wd.Extends w19_ := by subst hw; exact ext_alloc _ _
    have I130 : Ints w19_ (.slice (some ⟨wd.heap.size, 0, none⟩) 1 1) [b] := by subst hw; exact ints_one wd b 3
    clear hw
    refine hK.out _ _ hx ?_
    clear hK K
    have I13 := Lib.hid I130
    clear I130
    have HX := Lib.hid (Gr.ext_trans HX.out hx)
    clear hx
    refine Gr.Left.one (i := 1) (by kernel_rfl) (by kernel_rfl) (Gr.Step.mk rfl (fun K hK => ?_))
    go_simp
    generalize hw : World.alloc _ _ = w20_
    have hx : w19_.Extends w20_ := by subst hw; exact ext_alloc _ _
    have I70 : Ints w20_ (.slice (some ⟨w19_.heap.size, 0, none⟩) 1 1) [a] := by subst hw; exact ints_one w19_ a 3
    clear hw
    refine hK.out _ _ hx ?_
    clear hK K
    have I13 := Lib.hid (I13.out.ext hx)
    have I7 := Lib.hid I70
    clear I70
    have HX := Lib.hid (Gr.ext_trans HX.out hx)
    clear hx
    refine Gr.Left.one (i := 2) (by kernel_rfl) (by kernel_rfl) (Gr.Step.mk rfl (fun K hK => ?_))
    go_simp
    refine (HK1.out _ _ I7.out).mono ?_
    rintro e w21_ ⟨rfl, hx⟩
    try go_simp
    refine hK.out _ _ hx ?_
    clear hK K
    have I13 := Lib.hid (I13.out.ext hx)
    clear I7
    have HX := Lib.hid (Gr.ext_trans HX.out hx)
    clear hx
    refine Gr.Left.one (i := 4) (by kernel_rfl) (by kernel_rfl) (Gr.Step.mk rfl (fun K hK => ?_))
    go_simp
    refine (HD1.out _).mono ?_
    rintro e w22_ ⟨rfl, hx⟩
    try go_simp
    refine hK.out _ _ hx ?_
    clear hK K
    have I13 := Lib.hid (I13.out.ext hx)
    have HX := Lib.hid (Gr.ext_trans HX.out hx)
    clear hx
    refine Gr.Left.one (i := 7) (by kernel_rfl) (by kernel_rfl) (Gr.Step.mk rfl (fun K hK => ?_))
    go_simp
    refine (HK2.out _ _ I13.out).mono ?_
    rintro e w23_ ⟨rfl, hx⟩
    try go_simp
    refine hK.out _ _ hx ?_
    clear hK K
    clear I13
    have HX := Lib.hid (Gr.ext_trans HX.out hx)
    clear hx
    refine Gr.Left.one (i := 9) (by kernel_rfl) (by kernel_rfl) (Gr.Step.mk rfl (fun K hK => ?_))
    go_simp
    refine (HD2.out _).mono ?_
    rintro e w24_ ⟨rfl, hx⟩
    try go_simp
    refine hK.out _ _ hx ?_
    clear hK K
    have HX := Lib.hid (Gr.ext_trans HX.out hx)
    clear hx
    refine Gr.Left.one (i := 10) (by kernel_rfl) (by kernel_rfl) (Gr.Step.mk rfl (fun K hK => ?_))
    go_simp
    refine (HL.out _).mono ?_
    rintro e w25_ ⟨rfl, hx⟩
    try go_simp
    refine hK.out _ _ hx ?_
    clear hK K
    have HX := Lib.hid (Gr.ext_trans HX.out hx)
    clear hx
    refine Gr.Left.done (by kernel_rfl) ?_
    simp only [List.drop_succ_cons, List.drop_zero]
    go_wp2
    go_ret
    exact ⟨rfl, HX.out⟩
end Go.Proofs.Ytgjnkfbckbkcnaa
namespace Go.Proofs.Ytgjnkfbckbkcnaa
set_option maxRecDepth 20000
open Go.RowKit
namespace GrR
open Gr (AnyE check growB pick)
section
variable {P : Program} {ops : Array Oper} {Q : Exit → Act → World → Prop} {md : Region.Mode} {S : World → Prop}
def walk (B : Option Nat) (P : Program) (ops : Array Oper) (Q : Exit → Act → World → Prop) (tail : List Oper) : List (Bool × Oper) → Act → World → Prop
  | [], a, w => wpList P ops Q tail a w
  | (true, o) :: rest, a, w => if Region.wanted o (yielded ops a.tmps) = true then o.wp P a w (fun a' w' => w.grownBy w' B ∧ walk B P ops Q tail rest a' w') Q else walk B P ops Q tail rest (a.put o.dst undef) w
  | (false, o) :: rest, a, w => ∃ v, YieldsIf P ops (fun w' => w.grownBy w' B) o v a ∧ walk B P ops Q tail rest (a.put o.dst v) w
theorem walk_nil {B : Option Nat} {tail : List Oper} {a : Act} {w : World} (h : wpList P ops Q tail a w) : walk B P ops Q tail [] a w := h
/-- An operation that is taken. -/
theorem walk_t {B : Option Nat} {tail : List Oper} {rest : List (Bool × Oper)} {o : Oper} {a : Act} {w : World} (v : Value) (hy : YieldsIf P ops (fun w' => w.grownBy w' B) o v a) (h : walk B P ops Q tail rest (a.put o.dst v) w) :
    walk B P ops Q tail ((false, o) :: rest) a w := ⟨v, hy, h⟩
/-- An operation that is carried out. -/
theorem walk_c {B : Option Nat} {tail : List Oper} {rest : List (Bool × Oper)} {o : Oper} {a : Act} {w : World}
    (h : ∀ K : Act → World → Prop, Shut (∀ a' w', w.grownBy w' B → walk B P ops Q tail rest a' w' → K a' w') → if Region.wanted o (yielded ops a.tmps) = true then o.wp P a w K Q else K (a.put o.dst undef) w) :
    walk B P ops Q tail ((true, o) :: rest) a w := by
  have h0 := h (fun a' w' => w.grownBy w' B ∧ walk B P ops Q tail rest a' w') (fun _ _ h1 h2 => ⟨h1, h2⟩)
  unfold walk
  split
  · rename_i hw; rw [if_pos hw] at h0; exact h0
  · rename_i hw; rw [if_neg hw] at h0; exact h0.2

theorem walk_sound (B : Option Nat) {l : List Oper} {n : Nat} (hsel : Region.noSelect l.toArray = true) (hs : Region.sinkB md l.toArray n = true) (hc : Region.chainB md l.toArray n = true) (hn : n < l.toArray.size)
    (hQ : ∀ d v c a w, Q (.panic c) (Act.put a d v) w → Q (.panic c) a w) :
    ∀ (ord : List (Bool × Nat)) (listed : Array Bool) (a : Act) (w : World), HeadInv md l.toArray n listed → check md l.toArray n (l.toArray.size - n) ord listed = true →
      walk B P l.toArray Q (l.drop n) (pick l ord) a w →
      AnyE P md l.toArray Q n (fun listed' a' w' => Region.seqB md l.toArray (l.toArray.size - n) n listed' = true ∧ wpList P l.toArray Q (l.drop n) a' w') (fun w' => w.grownBy w' B) ord.length listed a w
  | [], listed, a, w, _, hB, h => ⟨hB, h⟩
  | (c, i) :: rest, listed, a, w, inv, hB, h => by
    simp only [check, Bool.and_eq_true, decide_eq_true_eq] at hB
    obtain ⟨⟨hin, hr⟩, hB'⟩ := hB
    have hil : i < l.length := by have : l.toArray.size = l.length := by simp
                                  omega
    have ho : l[i]? = some l[i] := List.getElem?_eq_getElem hil
    have hoa : l.toArray[i]? = some l[i] := by simp
    simp only [pick, ho] at h
    cases c with
    | true =>
      simp only [decide_eq_true_eq] at hr
      refine ⟨(by rw [hr]; simp), fun j hj => ?_⟩
      rw [hr] at hj
      obtain rfl : j = i := by simpa using hj
      refine ⟨hin, ?_⟩
      have hrm : j ∈ Region.ready md l.toArray listed := by rw [hr]; simp
      unfold walk at h
      unfold wpOp
      simp only [hoa]
      split
      · rename_i hw
        rw [if_pos hw] at h
        exact .inl (Oper.wp_mono (fun a' w' hk => ⟨hk.1, AnyE.weaken (fun u hu => grown_trans hk.1 hu) _ _ _ _ (walk_sound B hsel hs hc hn hQ rest _ a' w' (inv.set hrm hin) hB' hk.2)⟩) h)
      · rename_i hw
        rw [if_neg hw] at h
        exact ⟨grown_refl w B, walk_sound B hsel hs hc hn hQ rest _ _ w (inv.set hrm hin) hB' h⟩
    | false =>
      simp only [Bool.and_eq_true] at hr
      unfold walk at h
      obtain ⟨v, hy, hK⟩ := h
      have hrm : i ∈ Region.ready md l.toArray listed := by simpa using hr.1
      exact AnyE.first hoa (Region.noSelect_spec hsel) hs hc hn hin (fun c a w => hQ _ v c a w) (fun listed' a' w' hL => seqB_ready hL.1) rest.length listed a w inv (Region.free_spec hoa hr.2) hrm hy (grown_refl w B)
        (walk_sound B hsel hs hc hn hQ rest _ _ w (inv.set hrm hin) hB' hK)

theorem region (B : Option Nat) {id : Nat} {a : Act} {w : World} {l : List Oper} (n : Nat) (ord : List (Bool × Nat)) (hm : P.follows .mixedOrders = true) (hB : growB .any l.toArray n ord = true)
    (hQ : ∀ d v c a w, Q (.panic c) (Act.put a d v) w → Q (.panic c) a w)
    (h : walk B P l.toArray Q (l.drop n) (pick l ord) a w.drew) : (Code.region id l.toArray true).wp P Q a w := by
  simp only [growB, Bool.and_eq_true, decide_eq_true_eq] at hB
  obtain ⟨⟨⟨⟨⟨hsel, hn⟩, hs⟩, hc⟩, hlen⟩, hck⟩ := hB
  have hdl : (l.drop n).length = l.toArray.size - n := by simp
  have inv0 : HeadInv .any l.toArray n (Array.replicate l.toArray.size false) :=
    ⟨by simp, fun j oj _ hl => (by rw [getD_replicate_false] at hl; cases hl), fun t _ ht => getD_in (by simpa using ht) (getD_replicate_false _ _)⟩
  have H := walk_sound B (md := .any) hsel hs hc hn hQ ord _ a w.drew inv0 hck h
  refine wp_region_any hm ?_
  have := AnyE.any (Q := Q) (g := l.toArray.size - n) (fun listed a' w' hL => by
    have := wpAny_of_seq (md := .any) (Q' := Q) (l.drop n) n listed a' w' (fun j => by simp [List.getElem?_drop]) (by rw [hdl]; exact hL.1) hL.2
    rwa [hdl] at this) _ _ _ _ H
  rw [hlen] at this
  exact this
end
end GrR
end Go.Proofs.Ytgjnkfbckbkcnaa
namespace Go.Proofs.Ytgjnkfbckbkcnaa
set_option maxRecDepth 20000
open Go.RowKit Go.Deep
set_option linter.unusedVariables false
theorem qlen_any (g n cap : Nat) (w : World) : Calls Try.prog 59 #[.slice (some ⟨g, 0, none⟩) n cap] w fun e w' => e = .returned (.int .i64 (n : Nat)) ∧ w = w' := by
  go_enter Try.func59, Try.ntmps59
  go_wp2
  go_ret
  exact ⟨rfl, rfl⟩
theorem key_eql_run {a b : List Nat} (ha : a.length = 20) (hb : b.length = 20) {q : Bool} (hq : decide (a = b) = q) {x y : Value} (hx : KV a = x) (hy : KV b = y) : ∀ w, (binOp .eql 23 x y).run Try.prog w = .ok (.bool q) w := by
  intro w
  subst hx; subst hy; subst hq
  have h : (Op.equalIn Op.maxDepth 23 (KV a) (KV b)).run Try.prog w = .ok (decide (a = b)) w := run_key_eq ha hb w
  simp only [binOp, Op.equal, Sem.run_bind, h, Result.andThen_ok, Sem.run_pure]
theorem key_eql_guard {a b : List Nat} {x y : Value} (hx : KV a = x) (hy : KV b = y) : ∀ (o1 o2 : Operand) (w : World), (eqGuard .eql 23 o1 o2 x y).run Try.prog w = .ok () w := by
  intro o1 o2 w
  subst hx; subst hy
  have h : Try.prog.eqGuardType Try.prog.depth 23 = false := by kernel_rfl
  simp [eqGuard, h]
set_option maxHeartbeats 1000000 in
theorem qless_any (g n cap i j : Nat) (l : List Cd) (post : List Value) (w : World) (h : DAt w g 55 [] l post) (hn : l.length = n) (hi : i < n) (hj : j < n) (hok : ∀ c ∈ l, KY.Ok c.k) :
    Calls Try.prog 60 #[.slice (some ⟨g, 0, none⟩) n cap, .int .i64 (i : Nat), .int .i64 (j : Nat)] w fun e w' => e = .returned (.bool (dlt (l.getD i z22) (l.getD j z22))) ∧ w.Extends w' := by
  have hmem : ∀ k, k < n → l.getD k z22 ∈ l := fun k hk => by
    rw [List.getD_eq_getElem?_getD, List.getElem?_eq_getElem (by omega)]
    exact List.getElem_mem _
  have hoi := hok _ (hmem i hi)
  have hoj := hok _ (hmem j hj)
  have hri : w.rangeAt g (i * 22) (DL (l.getD i z22)) := h.range (by simp) (by omega)
  have hrj : w.rangeAt g (j * 22) (DL (l.getD j z22)) := h.range (by simp) (by omega)
  clear hmem hok h hn
  generalize l.getD i z22 = ci at *
  generalize l.getD j z22 = cj at *
  have HI : Hid (∀ w', w.Extends w' → w'.rangeAt g (i * 22) (DL ci)) := fun w' hx => range_extD hri hx
  have HJ : Hid (∀ w', w.Extends w' → w'.rangeAt g (j * 22) (DL cj)) := fun w' hx => range_extD hrj hx
  have HE : Hid (∀ w : World, (binOp .eql 23 (KV ci.k) (KV cj.k)).run Try.prog w = .ok (.bool (decide (ci.k = cj.k))) w) := key_eql_run ci.h cj.h rfl rfl rfl
  have HEG : Hid (∀ (o1 o2 : Operand) (w : World), (eqGuard .eql 23 o1 o2 (KV ci.k) (KV cj.k)).run Try.prog w = .ok () w) := key_eql_guard rfl rfl
  have HL : Hid (∀ w, Calls Try.prog 62 #[KV ci.k, KV cj.k] w fun e w' => e = .returned (.bool (KY.lt ci.k cj.k)) ∧ w.Extends w') := fun w => kless_any hoi hoj w
  have HD : Hid (dlt ci cj = if decide (ci.k = cj.k) then decide (ci.a < cj.a) else KY.lt ci.k cj.k) := by
    show dlt ci cj = _
    unfold dlt
    by_cases e : ci.k = cj.k <;> simp [e]
  obtain ⟨xi, hxi⟩ : ∃ x, KV ci.k = x := ⟨_, rfl⟩
  obtain ⟨xj, hxj⟩ : ∃ x, KV cj.k = x := ⟨_, rfl⟩
  have HXI := Lib.hid hxi
  have HXJ := Lib.hid hxj
  rw [hxi, hxj] at HE HL HEG
  rw [HD.out]
  generalize decide (ci.k = cj.k) = q at *
  generalize KY.lt ci.k cj.k = r at *
  clear hri hrj hxi hxj HD hoi hoj
  go_enter Try.func60, Try.ntmps60
  go_wp2_with fail
  refine Gr.region 10 [(false,0),(false,1),(false,2),(false,3),(false,4),(false,5),(false,6),(false,7),(false,8),(false,9)] (by kernel_rfl) (by kernel_rfl) (fun d _ _ _ _ h => by cases d <;> exact h) ?_
  simp only [Gr.pick, List.getElem?_cons_zero, List.getElem?_cons_succ, List.drop_succ_cons, List.drop_zero]
  generalize hwd : w.drew = w1 at *
  have HX1 : Hid (w.Extends w1) := by rw [← hwd]; exact Gr.ext_drew (Gr.ext_refl w)
  clear hwd
  iterate 4
    refine Gr.walk_t ?_ (Or.inl ⟨by rfl, ?_⟩) ?_
    rotate_left
    · intro w' hw'
      clear hw'
      go_simp
      try with_reducible rfl
    simp only [Act.put, List.setIfInBounds_toArray, List.set_cons_zero, List.set_cons_succ]
  refine Gr.walk_t _ (Or.inl ⟨by rfl, fun w' hw' => dist_yields ci.h (range_dist (HI.out w' (Gr.ext_trans HX1.out hw'))) (by rfl) (by rfl) (by exact HXI.out)⟩) ?_
  simp only [Act.put, List.setIfInBounds_toArray, List.set_cons_zero, List.set_cons_succ]
  iterate 4
    refine Gr.walk_t ?_ (Or.inl ⟨by rfl, ?_⟩) ?_
    rotate_left
    · intro w' hw'
      clear hw'
      go_simp
      try with_reducible rfl
    simp only [Act.put, List.setIfInBounds_toArray, List.set_cons_zero, List.set_cons_succ]
  refine Gr.walk_t _ (Or.inl ⟨by rfl, fun w' hw' => dist_yields cj.h (range_dist (HJ.out w' (Gr.ext_trans HX1.out hw'))) (by rfl) (by rfl) (by exact HXJ.out)⟩) ?_
  simp only [Act.put, List.setIfInBounds_toArray, List.set_cons_zero, List.set_cons_succ]
  refine Gr.walk_nil ?_
  have he := HE.out
  have heg := HEG.out
  cases q
  · clear HE HEG
    go_wp2_with fail
    refine Gr.region 11 [(false,0),(false,1),(false,2),(false,3),(false,4),(false,5),(false,6),(false,7),(false,8),(false,9),(true,10)] (by kernel_rfl) (by kernel_rfl) (fun d _ _ _ _ h => by cases d <;> exact h) ?_
    simp only [Gr.pick, List.getElem?_cons_zero, List.getElem?_cons_succ, List.drop_succ_cons, List.drop_zero]
    generalize hwd : w1.drew = w2 at *
    have HX2 : Hid (w.Extends w2) := by rw [← hwd]; exact Gr.ext_drew HX1.out
    clear hwd
    iterate 4
      refine Gr.walk_t ?_ (Or.inl ⟨by rfl, ?_⟩) ?_
      rotate_left
      · intro w' hw'
        clear hw'
        go_simp
        try with_reducible rfl
      simp only [Act.put, List.setIfInBounds_toArray, List.set_cons_zero, List.set_cons_succ]
    refine Gr.walk_t _ (Or.inl ⟨by rfl, fun w' hw' => dist_yields ci.h (range_dist (HI.out w' (Gr.ext_trans HX2.out hw'))) (by rfl) (by rfl) (by exact HXI.out)⟩) ?_
    simp only [Act.put, List.setIfInBounds_toArray, List.set_cons_zero, List.set_cons_succ]
    iterate 4
      refine Gr.walk_t ?_ (Or.inl ⟨by rfl, ?_⟩) ?_
      rotate_left
      · intro w' hw'
        clear hw'
        go_simp
        try with_reducible rfl
      simp only [Act.put, List.setIfInBounds_toArray, List.set_cons_zero, List.set_cons_succ]
    refine Gr.walk_t _ (Or.inl ⟨by rfl, fun w' hw' => dist_yields cj.h (range_dist (HJ.out w' (Gr.ext_trans HX2.out hw'))) (by rfl) (by rfl) (by exact HXJ.out)⟩) ?_
    simp only [Act.put, List.setIfInBounds_toArray, List.set_cons_zero, List.set_cons_succ]
    refine Gr.walk_c (fun K hK => ?_)
    go_simp
    refine (HL.out w2).mono ?_
    rintro e w3 ⟨rfl, hx3⟩
    try go_simp
    refine hK.out _ _ (hx3) ?_
    clear hK K
    refine Gr.walk_nil ?_
    have HX3 := Lib.hid (Gr.ext_trans HX2.out hx3)
    clear hx3
    go_wp2
    go_ret
    exact ⟨rfl, HX3.out⟩
  · clear HE HL HEG
    go_wp2_with fail
    have e1 : ∀ x y : Nat, decide ((x : Int) < (y : Int)) = decide (x < y) := fun x y => by rw [decide_eq_decide]; omega
    refine Gr.region 11 [(false,0),(false,1),(false,2),(false,3),(false,4),(false,5),(false,6),(false,7),(false,8),(false,9),(false,10)] (by kernel_rfl) (by kernel_rfl) (fun d _ _ _ _ h => by cases d <;> exact h) ?_
    simp only [Gr.pick, List.getElem?_cons_zero, List.getElem?_cons_succ, List.drop_succ_cons, List.drop_zero]
    generalize hwd : w1.drew = w2 at *
    have HX2 : Hid (w.Extends w2) := by rw [← hwd]; exact Gr.ext_drew HX1.out
    clear hwd
    iterate 11
      refine Gr.walk_t ?_ (Or.inl ⟨by rfl, ?_⟩) ?_
      rotate_left
      · intro w' hw'
        have ha := range_ahead (HI.out w' (Gr.ext_trans HX2.out hw'))
        have hb := range_ahead (HJ.out w' (Gr.ext_trans HX2.out hw'))
        clear hw'
        go_simp
        try with_reducible rfl
      simp only [Act.put, List.setIfInBounds_toArray, List.set_cons_zero, List.set_cons_succ]
    refine Gr.walk_nil ?_
    go_wp2
    go_ret
    exact ⟨by rw [← e1]; rfl, HX2.out⟩
end Go.Proofs.Ytgjnkfbckbkcnaa
namespace Go.Proofs.Ytgjnkfbckbkcnaa
set_option maxRecDepth 20000
open Go.RowKit Go.Deep
set_option linter.unusedVariables false
theorem wp_store_cd {o : Oper} {a : Act} {w : World} {K : Act → World → Prop} {Q : Exit → Act → World → Prop} (x y : Operand) (ho : o.op = .store 55 x y)
    (g off k : Nat) (c : Cd) (T : TypeId) (pre post : List Value) (l : List Cd) (hx : a.eval x = .pointer (some ⟨g, off, none⟩)) (hy : a.eval y = DV c) (hA : DAt w g T pre l post) (hoff : off = pre.length + k * 22) (hk : k < l.length)
    (h : ∀ w', DAt w' g T pre (l.set k c) post → w.grownBy w' (some g) → K (a.put o.dst undef) w') : o.wp Try.prog a w K Q := by
  have hlen : (pre ++ flatD l ++ post).length = pre.length + l.length * 22 + post.length := by rw [List.length_append, List.length_append, flatD_length]
  have hst := run_storeCells_at Try.prog g off T (DL c) 0 (pre ++ flatD l ++ post).toArray w hA (by rw [DL_length, List.size_toArray, hlen]; omega) (DL_one c)
  simp only [Nat.add_zero, DL_length] at hst
  have hrun : (storeVar 55 ⟨g, off, none⟩ (DV c)).run Try.prog w = .ok () (w.setRow g ((pre ++ flatD l ++ post).take off ++ DL c ++ (pre ++ flatD l ++ post).drop (off + 22)).toArray) := by
    have hty := DL_info c
    cases hq : Try.prog.info? 55 with
    | none => simp [hq] at hty
    | some t =>
      have hs' : t.size = 22 := by simpa [hq, DL_length] using hty
      simp [storeVar, sizeOf, typeInfo, hq, Value.cells, DL_length, hs', hst]
  unfold Oper.wp execOp
  simp only [ho, hx, hy, Instr.storeAt, Instr.sureAddr, Sem.run_bind, Sem.run_pure, Result.andThen_ok, hrun]
  refine h _ ?_ (grown_setRowD _ _ _)
  unfold DAt
  rw [setRow_heap w g _ _ _ _ hA]
  congr 3
  rw [flatD_set l k c hk, hoff]
  rw [List.append_assoc pre, List.take_append, List.take_of_length_le (by omega), show pre.length + k * 22 - pre.length = k * 22 by omega, List.take_append_of_le_length (by rw [flatD_length]; omega),
    List.drop_append, List.drop_eq_nil_of_le (by omega), show pre.length + k * 22 + 22 - pre.length = k * 22 + 22 by omega, List.nil_append, List.drop_append_of_le_length (by rw [flatD_length]; omega)]
  simp only [List.append_assoc]
theorem wp_yields {o : Oper} {a : Act} {w : World} {K : Act → World → Prop} {Q : Exit → Act → World → Prop} {v : Value} (h : (execOp a.eval o).run Try.prog w = .ok (.value v) w) (hK : K (a.put o.dst v) w) : o.wp Try.prog a w K Q := by
  unfold Oper.wp
  rw [h]
  exact hK
set_option maxHeartbeats 1000000 in
theorem qswap_any (g n cap i j : Nat) (l : List Cd) (post : List Value) (w : World) (h : DAt w g 55 [] l post) (hn : l.length = n) (hi : i < n) (hj : j < n) :
    Calls Try.prog 61 #[.slice (some ⟨g, 0, none⟩) n cap, .int .i64 (i : Nat), .int .i64 (j : Nat)] w fun e w' => e = .returned (.tuple #[]) ∧ DAt w' g 55 [] (HM.swap z22 l i j) post ∧ w.grownBy w' (some g) := by
  have hri : w.rangeAt g (i * 22) (DL (l.getD i z22)) := h.range (by simp) (by omega)
  have hrj : w.rangeAt g (j * 22) (DL (l.getD j z22)) := h.range (by simp) (by omega)
  have H := Lib.hid h
  have HS : Hid (HM.swap z22 l i j = (l.set i (l.getD j z22)).set j (l.getD i z22)) := rfl
  have HN := Lib.hid hn
  rw [HS.out]
  clear h HS hn
  generalize l.getD i z22 = ci at *
  generalize l.getD j z22 = cj at *
  have HI := Lib.hid hri
  have HJ := Lib.hid hrj
  clear hri hrj
  obtain ⟨xi, hxi⟩ : ∃ x, DV ci = x := ⟨_, rfl⟩
  obtain ⟨xj, hxj⟩ : ∃ x, DV cj = x := ⟨_, rfl⟩
  have HXI := Lib.hid hxi
  have HXJ := Lib.hid hxj
  clear hxi hxj
  go_enter Try.func61, Try.ntmps61
  go_wp2_with fail
  refine GrU.regionE GrU.any_way 14 4 [(false,0),(false,1),(false,2),(false,3),(false,4),(false,5),(false,6),(false,8),(false,9),(false,10)] (by kernel_rfl) (by kernel_rfl) (fun d _ _ _ _ h => by cases d <;> exact h) ?_
  simp only [Gr.pick, List.getElem?_cons_zero, List.getElem?_cons_succ]
  generalize hwd : w.drew = w1
  have H1 : Hid (DAt w1 g 55 [] l post) := by rw [← hwd]; exact H.out
  have HG1 : Hid (w.grownBy w1 (some g)) := by rw [← hwd]; exact grown_drew (grown_refl _ _)
  have HI1 : Hid (w1.rangeAt g (i * 22) (DL ci)) := by rw [← hwd]; exact HI.out
  have HJ1 : Hid (w1.rangeAt g (j * 22) (DL cj)) := by rw [← hwd]; exact HJ.out
  clear hwd HI HJ H
  iterate 10
    refine GrU.walkE_t ?_ (Or.inl ⟨by rfl, ?_⟩) ?_
    rotate_left
    · intro w' hw'
      clear hw'
      go_simp
      try with_reducible rfl
    simp only [Act.put, List.setIfInBounds_toArray, List.set_cons_zero, List.set_cons_succ]
  refine GrU.walkE_nil ?_
  refine GrU.Left.two GrU.any_way (i := 7) (j := 11) (by kernel_rfl) (by kernel_rfl) (GrU.Step.mk rfl (fun K hK => ?_)) (GrU.Step.mk rfl (fun K hK => ?_))
  · rw [if_pos (by rfl)]
    refine wp_yields (cd_yields HJ1.out HXJ.out rfl (by rfl)) ?_
    refine hK.out _ _ trivial ?_
    clear hK K
    simp only [Act.put, List.setIfInBounds_toArray, List.set_cons_zero, List.set_cons_succ]
    refine GrU.Left.one GrU.any_way (i := 11) (by kernel_rfl) (by kernel_rfl) (GrU.Step.mk rfl (fun K hK => ?_))
    rw [if_pos (by rfl)]
    refine wp_yields (cd_yields HI1.out HXI.out rfl (by rfl)) ?_
    refine hK.out _ _ trivial ?_
    clear hK K
    simp only [Act.put, List.setIfInBounds_toArray, List.set_cons_zero, List.set_cons_succ]
    refine GrU.Left.take GrU.any_way (i := 12) rfl (by kernel_rfl) (fun d _ _ _ _ h => by cases d <;> exact h) ?_ (Or.inl ⟨by rfl, ?_⟩) ?_
    rotate_left
    · intro w' hw'
      clear hw'
      go_simp
      try with_reducible rfl
    simp only [Act.put, List.setIfInBounds_toArray, List.set_cons_zero, List.set_cons_succ]
    refine GrU.Left.one GrU.any_way (i := 13) (by kernel_rfl) (by kernel_rfl) (GrU.Step.mk rfl (fun K hK => ?_))
    rw [if_pos (by rfl)]
    refine wp_store_cd (.tmp 18) (.tmp 13) rfl g (i * 22) i cj 55 [] post l (by rfl) (by exact HXJ.out.symm) H1.out (by simp) (by rw [HN.out]; exact hi) ?_
    intro w2 h2 hg2
    refine hK.out _ _ trivial ?_
    clear hK K
    refine GrU.Left.done (by kernel_rfl) ?_
    simp only [Act.put, List.drop_succ_cons, List.drop_zero]
    have H2 := Lib.hid h2
    have HG2 := Lib.hid (grown_trans HG1.out hg2)
    clear h2 hg2
    go_wp2_with (refine wpList_store_cd rfl (.tmp 19) (.tmp 17) rfl g (j * 22) j ci 55 [] post _ rfl (by exact HXI.out.symm) H2.out (by simp) (by rw [List.length_set, HN.out]; exact hj) ?_)
    intro w3 h3 hg3
    have H3 := Lib.hid h3
    have HG3 := Lib.hid (grown_trans HG2.out hg3)
    clear h3 hg3
    go_wp2
    go_end0
    exact ⟨rfl, H3.out, HG3.out⟩
  · rw [if_pos (by rfl)]
    refine wp_yields (cd_yields HI1.out HXI.out rfl (by rfl)) ?_
    refine hK.out _ _ trivial ?_
    clear hK K
    simp only [Act.put, List.setIfInBounds_toArray, List.set_cons_zero, List.set_cons_succ]
    refine GrU.Left.one GrU.any_way (i := 7) (by kernel_rfl) (by kernel_rfl) (GrU.Step.mk rfl (fun K hK => ?_))
    rw [if_pos (by rfl)]
    refine wp_yields (cd_yields HJ1.out HXJ.out rfl (by rfl)) ?_
    refine hK.out _ _ trivial ?_
    clear hK K
    simp only [Act.put, List.setIfInBounds_toArray, List.set_cons_zero, List.set_cons_succ]
    refine GrU.Left.take GrU.any_way (i := 12) rfl (by kernel_rfl) (fun d _ _ _ _ h => by cases d <;> exact h) ?_ (Or.inl ⟨by rfl, ?_⟩) ?_
    rotate_left
    · intro w' hw'
      clear hw'
      go_simp
      try with_reducible rfl
    simp only [Act.put, List.setIfInBounds_toArray, List.set_cons_zero, List.set_cons_succ]
    refine GrU.Left.one GrU.any_way (i := 13) (by kernel_rfl) (by kernel_rfl) (GrU.Step.mk rfl (fun K hK => ?_))
    rw [if_pos (by rfl)]
    refine wp_store_cd (.tmp 18) (.tmp 13) rfl g (i * 22) i cj 55 [] post l (by rfl) (by exact HXJ.out.symm) H1.out (by simp) (by rw [HN.out]; exact hi) ?_
    intro w2 h2 hg2
    refine hK.out _ _ trivial ?_
    clear hK K
    refine GrU.Left.done (by kernel_rfl) ?_
    simp only [Act.put, List.drop_succ_cons, List.drop_zero]
    have H2 := Lib.hid h2
    have HG2 := Lib.hid (grown_trans HG1.out hg2)
    clear h2 hg2
    go_wp2_with (refine wpList_store_cd rfl (.tmp 19) (.tmp 17) rfl g (j * 22) j ci 55 [] post _ rfl (by exact HXI.out.symm) H2.out (by simp) (by rw [List.length_set, HN.out]; exact hj) ?_)
    intro w3 h3 hg3
    have H3 := Lib.hid h3
    have HG3 := Lib.hid (grown_trans HG2.out hg3)
    clear h3 hg3
    go_wp2
    go_end0
    exact ⟨rfl, H3.out, HG3.out⟩
end Go.Proofs.Ytgjnkfbckbkcnaa
namespace Go.Proofs.Ytgjnkfbckbkcnaa
set_option maxRecDepth 20000
open Go.RowKit Go.Deep
set_option linter.unusedVariables false
theorem qp_under : Try.prog.underlying 64 = some (.pointer 48) := Try.underlying64
theorem run_load_q {w : World} {a : Addr} {x : Option Addr} {n c : Nat} (h : w.cell? a = some (.slice x n c)) : (loadVar 48 a).run Try.prog w = .ok (.slice x n c) w := by
  go_simp
theorem run_nilchk (a : Addr) (ts : Array TypeId) (ty : TypeId) (s m : ByteArray) (w : World) : (Builtin.ssaWrapNilChk_ ts ty #[.pointer (some a), .string s, .string m]).run Try.prog w = .ok (.pointer (some a)) w := rfl
theorem qm_val {name : String} {F : FuncId} (hm : ((Try.prog.info? 64).bind (fun i => i.methods.find? (·.name == name))).map (fun m => (m.path, m.func)) = some (#[], some (F, false)))
    {w : World} {a : Addr} {x : Option Addr} {n c : Nat} (h : w.cell? a = some (.slice x n c)) (k : Nat) : (method (k + 1) 64 (.pointer (some a)) name).run Try.prog w = .ok (F, .slice x n c) w := by
  have hl := run_load_q h
  obtain ⟨m, hm1, hm2⟩ := Option.map_eq_some_iff.1 hm
  obtain ⟨i, hi, hm'⟩ := Option.bind_eq_some_iff.1 hm1
  simp only [Prod.mk.injEq] at hm2
  obtain ⟨hp, hf⟩ := hm2
  have hti := run_typeInfo (P := Try.prog) (w := w) hi
  have hnc := fun s m => run_nilchk a #[64] 64 s m w
  unfold method
  simp only [Sem.run_bind, hti, Result.andThen_ok, hm', hp, hf, follow, Sem.run_pure, receiverAt, run_underlying qp_under, Place.get, strVal]
  simp only [Array.isEmpty_empty, if_true, Sem.run_bind, hnc, Result.andThen_ok, asAddr, Sem.run_pure, hl]
theorem qm_ptr {name : String} {F : FuncId} (hm : ((Try.prog.info? 64).bind (fun i => i.methods.find? (·.name == name))).map (fun m => (m.path, m.func)) = some (#[], some (F, true)))
    {w : World} {a : Addr} (k : Nat) : (method (k + 1) 64 (.pointer (some a)) name).run Try.prog w = .ok (F, .pointer (some a)) w := by
  obtain ⟨m, hm1, hm2⟩ := Option.map_eq_some_iff.1 hm
  obtain ⟨i, hi, hm'⟩ := Option.bind_eq_some_iff.1 hm1
  simp only [Prod.mk.injEq] at hm2
  obtain ⟨hp, hf⟩ := hm2
  have hti := run_typeInfo (P := Try.prog) (w := w) hi
  unfold method
  simp only [Sem.run_bind, hti, Result.andThen_ok, hm', hp, hf, List.toList_toArray, follow, Sem.run_pure, receiverAt, run_underlying qp_under, Place.get]
theorem qm_len {w : World} {a : Addr} {x : Option Addr} {n c : Nat} (h : w.cell? a = some (.slice x n c)) : ∀ k, (method (k + 1) 64 (.pointer (some a)) "Len").run Try.prog w = .ok (59, .slice x n c) w := qm_val (by kernel_rfl) h
theorem qm_less {w : World} {a : Addr} {x : Option Addr} {n c : Nat} (h : w.cell? a = some (.slice x n c)) : ∀ k, (method (k + 1) 64 (.pointer (some a)) "Less").run Try.prog w = .ok (60, .slice x n c) w := qm_val (by kernel_rfl) h
theorem qm_swap {w : World} {a : Addr} {x : Option Addr} {n c : Nat} (h : w.cell? a = some (.slice x n c)) : ∀ k, (method (k + 1) 64 (.pointer (some a)) "Swap").run Try.prog w = .ok (61, .slice x n c) w := qm_val (by kernel_rfl) h
theorem qm_push (w : World) (a : Addr) : ∀ k, (method (k + 1) 64 (.pointer (some a)) "Push").run Try.prog w = .ok (66, .pointer (some a)) w := qm_ptr (by kernel_rfl)
theorem qm_pop (w : World) (a : Addr) : ∀ k, (method (k + 1) 64 (.pointer (some a)) "Pop").run Try.prog w = .ok (65, .pointer (some a)) w := qm_ptr (by kernel_rfl)
set_option maxHeartbeats 1000000 in
/-- Up. -/
theorem up_any (t o g cap n j : Nat) (l : List Cd) (post : List Value) (w : World) (hc : w.cell? ⟨t, o, none⟩ = some (.slice (some ⟨g, 0, none⟩) n cap)) (htg : t ≠ g) (htl : t < w.heap.size)
    (h : DAt w g 55 [] l post) (hn : l.length = n) (hnb : n ≤ 100000) (hj : j < n) (hok : ∀ c ∈ l, KY.Ok c.k) (hup : HM.Up dlt z22 n l j) :
    Calls Try.prog 42 #[.iface 64 (.pointer (some ⟨t, o, none⟩)), .int .i64 (j : Nat)] w fun e w' => e = .returned (.tuple #[]) ∧ ∃ l', l'.Perm l ∧ HM.Heap dlt z22 n l' ∧ DAt w' g 55 [] l' post ∧ w.grownBy w' (some g) := by
  have HC : Hid (∀ w', w.grownBy w' (some g) → w'.cell? ⟨t, o, none⟩ = some (.slice (some ⟨g, 0, none⟩) n cap)) := fun w' hg => (World.cell?_of_block (hg.block t htl (by simpa using htg))).trans hc
  have HW := dlt_wk
  have HWK := Lib.hid HW
  have H0 := Lib.hid h
  have HN0 := Lib.hid hn
  have HOK := Lib.hid hok
  have HUP := Lib.hid hup
  clear h hn hok hup HW hc
  go_enter Try.func42, Try.ntmps42
  go_wp2_with fail
  go_loopw [1] (fun s1 wr => ∃ (k : Nat) (lr : List Cd), k < n ∧ s1 = .int .i64 k ∧ Hid (lr.Perm l) ∧ Hid (HM.Up dlt z22 n lr k) ∧ Hid (DAt wr g 55 [] lr post) ∧ Hid (w.grownBy wr (some g))) (fun s1 _ => (intOf s1).toNat)
  case atStart => exact ⟨j, l, hj, rfl, List.Perm.refl _, HUP.out, H0.out, grown_refl _ _⟩
  case round =>
    obtain ⟨k, lr, hk, rfl, HPM, HU, HD, HG⟩ := hrel
    have hlen : lr.length = n := by rw [HPM.out.length_eq, HN0.out]
    have HLEN := Lib.hid hlen
    have HKO : Hid (∀ c ∈ lr, KY.Ok c.k) := fun c hc => HOK.out c (HPM.out.mem_iff.1 hc)
    clear hlen
    by_cases h0 : k = 0
    · subst h0
      have HE : Hid (HM.Heap dlt z22 n lr) := HU.out.zero
      go_wp2
      go_end0
      exact ⟨rfl, lr, HPM.out, HE.out, HD.out, HG.out⟩
    · obtain ⟨p, hp⟩ : ∃ p, (k - 1) / 2 = p := ⟨_, rfl⟩
      have hpk : p < k := by omega
      have hcw := HC.out wr HG.out
      have hm1 := qm_less hcw
      have HLS := Lib.hid (qless_any g n cap k p lr post wr HD.out HLEN.out hk (by omega) HKO.out)
      have HP := Lib.hid hp
      have hdiv : ((k : Int) - 1) / 2 = (p : Int) := by omega
      clear hcw hp
      go_wp2_with fail
      refine HLS.out.mono ?_
      rintro e w1 ⟨rfl, hx1⟩
      have HG1 : Hid (w.grownBy w1 (some g)) := grown_trans HG.out (grown_below (Gr.below_of hx1) (Nat.le_refl _))
      have HD1 : Hid (DAt w1 g 55 [] lr post) := HD.out.ext hx1
      have HUS : Hid (dlt (lr.getD k z22) (lr.getD p z22) = false → HM.Heap dlt z22 n lr) := fun hR => HU.out.stop (by rw [HP.out]; exact hR)
      have HUN : Hid (dlt (lr.getD k z22) (lr.getD p z22) = true → HM.Up dlt z22 n (HM.swap z22 lr p k) p) := fun hR => by
        have := HU.out.step HWK.out (Nat.le_of_eq HLEN.out.symm) hk (Nat.pos_of_ne_zero h0) (by rw [HP.out]; exact hR)
        rwa [HP.out] at this
      clear hx1 HLS hm1
      generalize dlt (lr.getD k z22) (lr.getD p z22) = q at *
      cases q
      · go_wp2
        go_end0
        exact ⟨rfl, lr, HPM.out, HUS.out (by simp), HD1.out, HG1.out⟩
      · have hm2 := qm_swap (HC.out w1 HG1.out)
        have HSW := Lib.hid (qswap_any g n cap p k lr post w1 HD1.out HLEN.out (by omega) hk)
        have HPS := Lib.hid (HM.swap_perm (z := z22) lr (i := p) (j := k) (by rw [HLEN.out]; omega) (by rw [HLEN.out]; omega))
        go_wp2_with fail
        refine HSW.out.mono ?_
        rintro e w2 ⟨rfl, hd2, hg2⟩
        have HD2 := Lib.hid hd2
        have HG2 := Lib.hid (grown_trans HG1.out hg2)
        clear hd2 hg2 HSW hm2
        go_wp2
        go_roundw
        case rel => exact ⟨p, HM.swap z22 lr p k, by omega, rfl, HPS.out.trans HPM.out, HUN.out (by simp), HD2.out, HG2.out⟩
        case measure => simp [intOf]; omega
end Go.Proofs.Ytgjnkfbckbkcnaa
