/- As base/XGrow, where what is carried out may write too, into blocks from B on: what is taken reads below B alone. -/
import Derived.Test.YtmbbhmmciidfnaaGrow
namespace Go.Proofs.Ytmbbhmmciidfnaa
set_option maxRecDepth 20000
open Go.RowKit
namespace GrL
open Gr (AnyE check growB pick)
section
variable {P : Program} {ops : Array Oper} {Q : Exit → Act → World → Prop} {md : Region.Mode} {S : World → Prop}
variable {B : Nat}
open Gr (checkTo lists)
/-! Where more than one operation that is carried out may come up: the walk goes a step at a time. -/
/-- What is left: 'f' operations of the head, then the tail. -/
def Left (B : Nat) (P : Program) (l : List Oper) (Q : Exit → Act → World → Prop) (n f : Nat) (listed : Array Bool) (a : Act) (w : World) : Prop :=
  HeadInv .any l.toArray n listed → AnyE P .any l.toArray Q n (fun listed' a' w' => Region.seqB .any l.toArray (l.toArray.size - n) n listed' = true ∧ wpList P l.toArray Q (l.drop n) a' w') (Below B w) f listed a w
theorem Left.done {l : List Oper} {n : Nat} {listed : Array Bool} {a : Act} {w : World} (hB : Region.seqB .any l.toArray (l.toArray.size - n) n listed = true) (h : wpList P l.toArray Q (l.drop n) a w) : Left B P l Q n 0 listed a w := fun _ => ⟨hB, h⟩
theorem Left.take {l : List Oper} {n f i : Nat} {o : Oper} {listed : Array Bool} {a : Act} {w : World} (hi : l[i]? = some o)
    (hk : (Region.noSelect l.toArray && decide (n < l.toArray.size) && Region.sinkB .any l.toArray n && Region.chainB .any l.toArray n && decide (i < n) && (Region.ready .any l.toArray listed).contains i && Region.free .any l.toArray listed i) = true)
    (hQ : ∀ d v c a w, Q (.panic c) (Act.put a d v) w → Q (.panic c) a w) (v : Value) (hy : YieldsIf P l.toArray (Below B w) o v a)
    (h : Left B P l Q n f (listed.setIfInBounds i true) (a.put o.dst v) w) : Left B P l Q n (f + 1) listed a w := fun inv => by
  simp only [Bool.and_eq_true, decide_eq_true_eq] at hk
  obtain ⟨⟨⟨⟨⟨⟨hsel, hn⟩, hs⟩, hc⟩, hin⟩, hr⟩, hf⟩ := hk
  have hoa : l.toArray[i]? = some o := by simpa using hi
  have hrm : i ∈ Region.ready .any l.toArray listed := by simpa using hr
  exact AnyE.first hoa (Region.noSelect_spec hsel) hs hc hn hin (fun c a w => hQ _ v c a w) (fun listed' a' w' hL => seqB_ready hL.1) f listed a w inv (Region.free_spec hoa hf) hrm hy (Below.refl B w) (h (inv.set hrm hin))
/-- One step of an operation that is carried out. -/
def Step (B : Nat) (P : Program) (l : List Oper) (Q : Exit → Act → World → Prop) (n f i : Nat) (listed : Array Bool) (a : Act) (w : World) : Prop :=
  ∀ o, l[i]? = some o → ∀ K : Act → World → Prop, Shut (∀ a' w', Below B w w' → Left B P l Q n f (listed.setIfInBounds i true) a' w' → K a' w') → if Region.wanted o (yielded l.toArray a.tmps) = true then o.wp P a w K Q else K (a.put o.dst undef) w
theorem Step.mk {l : List Oper} {n f i : Nat} {o : Oper} {listed : Array Bool} {a : Act} {w : World} (hi : l[i]? = some o)
    (h : ∀ K : Act → World → Prop, Shut (∀ a' w', Below B w w' → Left B P l Q n f (listed.setIfInBounds i true) a' w' → K a' w') → if Region.wanted o (yielded l.toArray a.tmps) = true then o.wp P a w K Q else K (a.put o.dst undef) w) : Step B P l Q n f i listed a w := fun o' ho' => by
  rw [hi] at ho'; cases ho'; exact h
theorem Left.some {l : List Oper} {n f : Nat} {rs : List Nat} {listed : Array Bool} {a : Act} {w : World} (hr : Region.ready .any l.toArray listed = rs) (hne : (!rs.isEmpty && rs.all (· < n) && rs.all (· < l.length)) = true)
    (h : ∀ i ∈ rs, Step B P l Q n f i listed a w) : Left B P l Q n (f + 1) listed a w := fun inv => by
  simp only [Bool.and_eq_true, List.all_eq_true, decide_eq_true_eq] at hne
  refine ⟨(by rw [hr]; intro h0; rw [h0] at hne; simp at hne), fun j hj => ?_⟩
  have hjr : j ∈ rs := hr ▸ hj
  refine ⟨hne.1.2 j hjr, ?_⟩
  have hjl := hne.2 j hjr
  have hoa : l.toArray[j]? = Option.some l[j] := by simp
  have h0 := h j hjr l[j] (List.getElem?_eq_getElem hjl) (fun a' w' => Below B w w' ∧ Left B P l Q n f (listed.setIfInBounds j true) a' w') (fun _ _ h1 h2 => ⟨h1, h2⟩)
  have hinv := inv.set hj (hne.1.2 j hjr)
  have fin : ∀ a' w', Below B w w' ∧ Left B P l Q n f (listed.setIfInBounds j true) a' w' → Below B w w' ∧ AnyE P .any l.toArray Q n _ (Below B w) f (listed.setIfInBounds j true) a' w' :=
    fun a' w' hk => ⟨hk.1, AnyE.weaken (fun u hu => hk.1.trans hu) _ _ _ _ (hk.2 hinv)⟩
  unfold wpOp
  simp only [hoa]
  split
  · rename_i hw; rw [if_pos hw] at h0; exact .inl (Oper.wp_mono fin h0)
  · rename_i hw; rw [if_neg hw] at h0; exact fin _ _ h0
theorem Left.one {l : List Oper} {n f i : Nat} {listed : Array Bool} {a : Act} {w : World} (hr : Region.ready .any l.toArray listed = [i]) (hne : (decide (i < n) && decide (i < l.length)) = true)
    (h : Step B P l Q n f i listed a w) : Left B P l Q n (f + 1) listed a w :=
  Left.some hr (by simpa using hne) (fun j hj => by obtain rfl : j = i := by simpa using hj
                                                    exact h)
theorem Left.two {l : List Oper} {n f i j : Nat} {listed : Array Bool} {a : Act} {w : World} (hr : Region.ready .any l.toArray listed = [i, j]) (hne : (decide (i < n) && decide (i < l.length) && decide (j < n) && decide (j < l.length)) = true)
    (h1 : Step B P l Q n f i listed a w) (h2 : Step B P l Q n f j listed a w) : Left B P l Q n (f + 1) listed a w :=
  Left.some hr (by simp only [Bool.and_eq_true, decide_eq_true_eq] at hne; simp; omega) (fun k hk => by
    simp only [List.mem_cons, List.not_mem_nil, or_false] at hk
    rcases hk with rfl | rfl
    · exact h1
    · exact h2)
theorem Left.three {l : List Oper} {n f i j k : Nat} {listed : Array Bool} {a : Act} {w : World} (hr : Region.ready .any l.toArray listed = [i, j, k]) (hne : (decide (i < n) && decide (i < l.length) && decide (j < n) && decide (j < l.length) && decide (k < n) && decide (k < l.length)) = true)
    (h1 : Step B P l Q n f i listed a w) (h2 : Step B P l Q n f j listed a w) (h3 : Step B P l Q n f k listed a w) : Left B P l Q n (f + 1) listed a w :=
  Left.some hr (by simp only [Bool.and_eq_true, decide_eq_true_eq] at hne; simp; omega) (fun m hm => by
    simp only [List.mem_cons, List.not_mem_nil, or_false] at hm
    rcases hm with rfl | rfl | rfl
    · exact h1
    · exact h2
    · exact h3)
def walkE (B : Nat) (P : Program) (ops : Array Oper) (Q : Exit → Act → World → Prop) (E : Act → World → Prop) : List (Bool × Oper) → Act → World → Prop
  | [], a, w => E a w
  | (true, o) :: rest, a, w => if Region.wanted o (yielded ops a.tmps) = true then o.wp P a w (fun a' w' => Below B w w' ∧ walkE B P ops Q E rest a' w') Q else walkE B P ops Q E rest (a.put o.dst undef) w
  | (false, o) :: rest, a, w => ∃ v, YieldsIf P ops (Below B w) o v a ∧ walkE B P ops Q E rest (a.put o.dst v) w
theorem walkE_nil {E : Act → World → Prop} {a : Act} {w : World} (h : E a w) : walkE B P ops Q E [] a w := h
theorem walkE_t {E : Act → World → Prop} {rest : List (Bool × Oper)} {o : Oper} {a : Act} {w : World} (v : Value) (hy : YieldsIf P ops (Below B w) o v a) (h : walkE B P ops Q E rest (a.put o.dst v) w) :
    walkE B P ops Q E ((false, o) :: rest) a w := ⟨v, hy, h⟩
theorem walkE_c {E : Act → World → Prop} {rest : List (Bool × Oper)} {o : Oper} {a : Act} {w : World}
    (h : ∀ K : Act → World → Prop, Shut (∀ a' w', Below B w w' → walkE B P ops Q E rest a' w' → K a' w') → if Region.wanted o (yielded ops a.tmps) = true then o.wp P a w K Q else K (a.put o.dst undef) w) :
    walkE B P ops Q E ((true, o) :: rest) a w := by
  have h0 := h (fun a' w' => Below B w w' ∧ walkE B P ops Q E rest a' w') (fun _ _ h1 h2 => ⟨h1, h2⟩)
  unfold walkE
  split
  · rename_i hw; rw [if_pos hw] at h0; exact h0
  · rename_i hw; rw [if_neg hw] at h0; exact h0.2
theorem walkE_sound {l : List Oper} {n g : Nat} (hsel : Region.noSelect l.toArray = true) (hs : Region.sinkB .any l.toArray n = true) (hc : Region.chainB .any l.toArray n = true) (hn : n < l.toArray.size)
    (hQ : ∀ d v c a w, Q (.panic c) (Act.put a d v) w → Q (.panic c) a w) :
    ∀ (ord : List (Bool × Nat)) (listed : Array Bool) (a : Act) (w : World), checkTo .any l.toArray n ord listed = true →
      walkE B P l.toArray Q (Left B P l Q n g (lists ord listed)) (pick l ord) a w → Left B P l Q n (ord.length + g) listed a w
  | [], listed, a, w, _, h => by rw [List.length_nil, Nat.zero_add]; exact h
  | (c, i) :: rest, listed, a, w, hB, h => fun inv => by
    simp only [checkTo, Bool.and_eq_true, decide_eq_true_eq] at hB
    obtain ⟨⟨hin, hr⟩, hB'⟩ := hB
    have hil : i < l.length := by have : l.toArray.size = l.length := by simp
                                  omega
    have ho : l[i]? = Option.some l[i] := List.getElem?_eq_getElem hil
    have hoa : l.toArray[i]? = Option.some l[i] := by simp
    have hlen : ((c, i) :: rest).length + g = (rest.length + g) + 1 := by simp; omega
    rw [hlen]
    simp only [pick, ho] at h
    cases c with
    | true =>
      simp only [decide_eq_true_eq] at hr
      refine ⟨(by rw [hr]; simp), fun j hj => ?_⟩
      rw [hr] at hj
      obtain rfl : j = i := by simpa using hj
      refine ⟨hin, ?_⟩
      have hrm : j ∈ Region.ready .any l.toArray listed := by rw [hr]; simp
      unfold walkE at h
      unfold wpOp
      simp only [hoa]
      split
      · rename_i hw
        rw [if_pos hw] at h
        exact .inl (Oper.wp_mono (fun a' w' hk => ⟨hk.1, AnyE.weaken (fun u hu => hk.1.trans hu) _ _ _ _ (walkE_sound hsel hs hc hn hQ rest _ a' w' hB' hk.2 (inv.set hrm hin))⟩) h)
      · rename_i hw
        rw [if_neg hw] at h
        exact ⟨Below.refl B w, walkE_sound hsel hs hc hn hQ rest _ _ w hB' h (inv.set hrm hin)⟩
    | false =>
      simp only [Bool.and_eq_true] at hr
      unfold walkE at h
      obtain ⟨v, hy, hK⟩ := h
      have hrm : i ∈ Region.ready .any l.toArray listed := by simpa using hr.1
      exact AnyE.first hoa (Region.noSelect_spec hsel) hs hc hn hin (fun c a w => hQ _ v c a w) (fun listed' a' w' hL => seqB_ready hL.1) (rest.length + g) listed a w inv (Region.free_spec hoa hr.2) hrm hy (Below.refl B w)
        (walkE_sound hsel hs hc hn hQ rest _ _ w hB' hK (inv.set hrm hin))
theorem regionE {id : Nat} {a : Act} {w : World} {l : List Oper} (n g : Nat) (ord : List (Bool × Nat)) (hm : P.follows .mixedOrders = true)
    (hB : (Region.noSelect l.toArray && decide (n < l.toArray.size) && Region.sinkB .any l.toArray n && Region.chainB .any l.toArray n && decide (ord.length + g = n) && checkTo .any l.toArray n ord (Array.replicate l.toArray.size false)) = true)
    (hQ : ∀ d v c a w, Q (.panic c) (Act.put a d v) w → Q (.panic c) a w)
    (h : walkE B P l.toArray Q (Left B P l Q n g (lists ord (Array.replicate l.toArray.size false))) (pick l ord) a w.drew) : (Code.region id l.toArray true).wp P Q a w := by
  simp only [Bool.and_eq_true, decide_eq_true_eq] at hB
  obtain ⟨⟨⟨⟨⟨hsel, hn⟩, hs⟩, hc⟩, hlen⟩, hck⟩ := hB
  have hdl : (l.drop n).length = l.toArray.size - n := by simp
  have inv0 : HeadInv .any l.toArray n (Array.replicate l.toArray.size false) :=
    ⟨by simp, fun j oj _ hl => (by rw [getD_replicate_false] at hl; cases hl), fun t _ ht => getD_in (by simpa using ht) (getD_replicate_false _ _)⟩
  have H := walkE_sound hsel hs hc hn hQ ord _ a w.drew hck h inv0
  refine wp_region_any hm ?_
  have := AnyE.any (Q := Q) (g := l.toArray.size - n) (fun listed a' w' hL => by
    have := wpAny_of_seq (md := .any) (Q' := Q) (l.drop n) n listed a' w' (fun j => by simp [List.getElem?_drop]) (by rw [hdl]; exact hL.1) hL.2
    rwa [hdl] at this) _ _ _ _ H
  rw [hlen, show n + (l.toArray.size - n) = l.toArray.size by omega] at this
  exact this
end
end GrL
end Go.Proofs.Ytmbbhmmciidfnaa
