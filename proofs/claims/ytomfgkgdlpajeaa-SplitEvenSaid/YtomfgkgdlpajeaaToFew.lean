/- Contracts of the second law's helpers: To (lists of bytes as rows) and Few. -/
import Derived.Test.YtomfgkgdlpajeaaMats
import Derived.Test.YtomfgkgdlpajeaaRefSum
namespace Go.Proofs.Ytomfgkgdlpajeaa
set_option maxRecDepth 20000
open Go.RowKit
/-- v is the call's own slice of the first k rows of l, each the call's own. -/
def ToInv (B : Nat) (TR : TypeId) (w : World) (v : Value) (k : Nat) (l : List (List Nat)) : Prop :=
  ∃ vs : List Value, w.ownsRow B TR 1 v k vs ∧ ∀ j, j < k → ∃ u, vs[j]? = some u ∧ w.ownsRow B 5 1 u (l.getD j []).length (u8vs (l.getD j []))
theorem ToInv.rws {B : Nat} {TR : TypeId} {w : World} {v : Value} {k : Nat} {l : List (List Nat)} (h : ToInv B TR w v k l) (hk : k = l.length) (hlt : ∀ r ∈ l, ∀ x ∈ r, x < 256) : Rws w v l := by
  subst hk
  obtain ⟨vs, hown, hrow⟩ := h
  rcases hown.2 with ⟨rfl, h0⟩ | ⟨g, cap, cur, rfl, hbg, hg, hnc, hcm, hcs, htake⟩
  · exact .inl ⟨List.eq_nil_of_length_eq_zero h0, none, 0, rfl⟩
  · refine .inr ⟨g, 0, cap, rfl, hnc, hcm, (Array.getElem?_eq_some_iff.1 hg).1, fun j hj => ?_⟩
    obtain ⟨u, hu, ho⟩ := hrow j hj
    refine ⟨u, ?_, owns_u8s ho fun x hx => ?_⟩
    · have := hown.cells (g := g) rfl j u hu
      rw [Addr.add_mid] at this
      exact this
    · refine hlt (l.getD j []) ?_ x hx
      rw [List.getD_eq_getElem?_getD, List.getElem?_eq_getElem hj]; exact List.getElem_mem hj
/-- Rows of two kinds lie apart. -/
theorem owns_apart {w : World} {B B' : Nat} {e e' : TypeId} {s s' : Nat} {v v' : Value} {n n' : Nat} {xs xs' : List Value} (h : w.ownsRow B e s v n xs) (h' : w.ownsRow B' e' s' v' n' xs') (he : e ≠ e') : v.ownBlock = none ∨ v.ownBlock ≠ v'.ownBlock := by
  rcases h.2 with ⟨rfl, h0⟩ | ⟨g, cap, cur, rfl, hbg, hg, _⟩
  · exact .inl rfl
  · rcases h'.2 with ⟨rfl, h0⟩ | ⟨g', cap', cur', rfl, hbg', hg', _⟩
    · exact .inr (by simp [Value.ownBlock])
    · refine .inr fun hgg => ?_
      simp only [Value.ownBlock, Option.some.injEq] at hgg
      subst hgg
      rw [hg] at hg'
      simp only [Option.some.injEq, Obj.cells.injEq] at hg'
      exact he hg'.2.1
theorem ToInv.kept {B : Nat} {TR : TypeId} {w w' : World} {v : Value} {k : Nat} {l : List (List Nat)} (h : ToInv B TR w v k l) (hx : w.Extends w') : ToInv B TR w' v k l := by
  obtain ⟨vs, ho, hr⟩ := h
  have hg : w.grownBy w' none := ⟨hx.os, hx.tape, hx.output, hx.size, fun i hi _ => hx.block i hi⟩
  have hne : ∀ u : Value, u.ownBlock = none ∨ u.ownBlock ≠ none := fun u => by cases u.ownBlock <;> simp
  refine ⟨vs, ho.kept hg (hne v), fun j hj => ?_⟩
  obtain ⟨u, hu, hou⟩ := hr j hj
  exact ⟨u, hu, hou.kept hg (hne u)⟩
theorem ToInv.snoc {B : Nat} {TR : TypeId} {w w' : World} {v v' u : Value} {k : Nat} {l : List (List Nat)} {vs : List Value} (hT : (5 : Nat) ≠ TR) (hown : w.ownsRow B TR 1 v k vs)
    (hr : ∀ j, j < k → ∃ u, vs[j]? = some u ∧ w.ownsRow B 5 1 u (l.getD j []).length (u8vs (l.getD j []))) (hu : w.ownsRow B 5 1 u (l.getD k []).length (u8vs (l.getD k [])))
    (hg : w.grownBy w' v.ownBlock) (ho : w'.ownsRow B TR 1 v' (k + 1) (vs ++ [u])) : ToInv B TR w' v' (k + 1) l := by
  have hl : vs.length = k := by have := hown.1; omega
  refine ⟨vs ++ [u], ho, fun j hj => ?_⟩
  by_cases hjk : j < k
  · obtain ⟨u', hu', ho'⟩ := hr j hjk
    exact ⟨u', by rw [List.getElem?_append_left (by omega)]; exact hu', ho'.kept hg (owns_apart ho' hown hT)⟩
  · obtain rfl : j = k := by omega
    exact ⟨u, by rw [List.getElem?_append_right (by omega), hl]; simp, hu.kept hg (owns_apart hu hown hT)⟩
/-- A slice of rows that the call has made. -/
def MadeRows (w : World) (TR : TypeId) (l : List (List Nat)) (e : Ending) (w' : World) : Prop := ∃ v', e = .returned v' ∧ Below w.heap.size w w' ∧ Rws w' v' l ∧ ToInv w.heap.size TR w' v' l.length l
theorem Rws.all_lt {w : World} {v : Value} {l : List (List Nat)} (h : Rws w v l) : ∀ r ∈ l, ∀ x ∈ r, x < 256 := by
  rcases h with ⟨rfl, _⟩ | ⟨b, off, cap, rfl, _, _, _, h4⟩
  · intro r hr; cases hr
  · intro r hr x hx
    obtain ⟨k, hk, rfl⟩ := List.mem_iff_getElem.1 hr
    obtain ⟨u, _, hs⟩ := h4 k hk
    rw [show l.getD k [] = l[k] by simp [hk]] at hs
    exact hs.lt x hx
set_option maxHeartbeats 1000000 in
theorem to_any (v : Value) (l : List (List Nat)) (w : World) (hv : Rws w v l) (hm : l.length ≤ 1000000000) (hml : ∀ k, (l.getD k []).length ≤ 1000000000) :
    Calls Try.prog 9 #[v] w (MadeRows w 49 l) := by
  obtain ⟨a, cap, rfl, _⟩ := hv.slice
  have HV := Lib.hid hv.at.2
  have hlt := hv.all_lt
  obtain ⟨i0, hi, hz0, hz1, hz2⟩ := info_parts u8info
  obtain ⟨i1, hi', hz0', hz1', hz2'⟩ := info_parts rowinfo
  have HI := Lib.hid hi; clear hi
  have HZ0 := Lib.hid hz0; clear hz0
  have HZ1 := Lib.hid hz1; clear hz1
  have HZ2 := Lib.hid hz2; clear hz2
  have HI' := Lib.hid hi'; clear hi'
  have HZ0' := Lib.hid hz0'; clear hz0'
  have HZ1' := Lib.hid hz1'; clear hz1'
  have HZ2' := Lib.hid hz2'; clear hz2'
  have HML := Lib.hid hml; clear hml
  have HFIN : Hid (∀ (k : Nat) (v' : Value) (w' : World), k = l.length → Below w.heap.size w w' → ToInv w.heap.size 49 w' v' k l → MadeRows w 49 l (.returned v') w') :=
    fun k v' w' hk h1 h2 => ⟨v', rfl, h1, h2.rws hk hlt, hk ▸ h2⟩
  have HOB : Hid (∀ (w' : World) (v' : Value) (k : Nat), ToInv w.heap.size 49 w' v' k l → ∀ g, v'.ownBlock = some g → w.heap.size ≤ g) := fun w' v' k h g hg => by
    obtain ⟨vs, ho, _⟩ := h; exact (ho.lt g hg).1
  clear hv hlt
  generalize hn : l.length = n at *
  have HN := Lib.hid hn; clear hn
  go_enter Try.func9, Try.ntmps9
  go_wp2
  go_loopw [3, 4] (fun o i wr => ∃ k : Nat, k ≤ n ∧ i = .int .i64 k ∧ Below w.heap.size w wr ∧ ToInv w.heap.size 49 wr o k l) (fun _ i _ => (n - intOf i).toNat)
  case atStart => exact ⟨0, by omega, rfl, Below.refl _ _, [], World.ownsRow_nil _ _ _ _, fun j hj => absurd hj (Nat.not_lt_zero _)⟩
  case round =>
    obtain ⟨k, hk, rfl, hb, hinv⟩ := hrel
    by_cases h1 : k < n
    · obtain ⟨b1, o1, rfl, hb1, hc1⟩ := HV.out (by omega)
      obtain ⟨ra, rc, hc3, hr0⟩ := hc1 k h1
      have hc2 : wr.cell? ⟨b1, o1 + k, none⟩ = some (.slice ra (l.getD k []).length rc) := (hb.cell (p := ⟨b1, o1 + k, none⟩) hb1).trans hc3
      have HR := Lib.hid (hr0.ext (ext_below hb rfl))
      have hrl := HML.out k
      have HB := Lib.hid hb
      have HINV := Lib.hid hinv
      have hbs := hb.size
      clear hc1 hc3 hr0 hb hinv
      generalize hr : l.getD k [] = r at *
      have HRR := Lib.hid hr; clear hr
      go_wp2_with (at_builtin; refine wpList_append_own_src _ rfl (.const (.slice none 0 0)) _ 49 24 rfl w.heap.size 5 i0 (.int .u8 0) 1 1 Try.underlying49 HI.out HZ0.out HZ1.out HZ2.out rfl _ _ _ rfl (World.ownsRow_nil _ _ _ _) _ r.length (u8vs r) rfl (HR.out.src Try.underlying24) (by unfold maxLen; omega) (by omega) (by omega) ?_)
      intro u w2 ho2 hg2 _
      have hx2 : wr.Extends w2 := ext_below ⟨hg2.os, hg2.tape, hg2.output, hg2.size, fun i hi => hg2.block i hi (by simp [Value.ownBlock])⟩ rfl
      have HINV2 := Lib.hid (HINV.out.kept hx2)
      have HB2 := Lib.hid (HB.out.trans ((Gr.below_of hx2).mono hbs))
      obtain ⟨ua, uc, rfl⟩ := owns_slice ho2
      have HO2 := Lib.hid ho2
      have hbs2 := hx2.size
      clear ho2 hg2 hx2 HR HINV HB
      obtain ⟨vs, hown, hrows⟩ := HINV2.out
      have HOWN := Lib.hid hown
      have HROWS := Lib.hid hrows
      clear hown hrows
      go_wp2_with (at_builtin; refine wpList_append_own_src _ rfl _ _ 30 30 rfl w.heap.size 49 i1 (.slice none 0 0) 1 24 Try.underlying30 HI'.out HZ0'.out HZ1'.out HZ2'.out rfl _ _ _ rfl (HOWN.out.alloc _) _ 1 [.slice ua r.length uc] rfl (src_one Try.underlying30 _ _ rfl (owns_one HO2.out)) (by unfold maxLen; omega) (by omega) (by simp; omega) ?_)
      intro v' w3 ho3 hg3 _
      have HP : Hid (Below w.heap.size w w3 ∧ ToInv w.heap.size 49 w3 v' (k + 1) l) := by
        refine ⟨(HB2.out.alloc (Nat.le_trans hbs hbs2) _).grown hg3 (by simp; omega) (fun g hg => (HOWN.out.lt g hg).1), ?_⟩
        refine ToInv.snoc (by decide) (HOWN.out.alloc _) (fun j hj => ?_) (by rw [HRR.out]; exact HO2.out.alloc _) hg3 ho3
        obtain ⟨u', h1, h2⟩ := HROWS.out j hj
        exact ⟨u', h1, h2.alloc _⟩
      clear ho3 hg3
      go_wp2
      go_roundw
      case rel => exact ⟨k + 1, by omega, by go_num, HP.out⟩
      case measure => simp [intOf]; omega
    · obtain rfl : k = n := by omega
      have HP := Lib.hid (HFIN.out _ _ _ rfl hb hinv)
      clear hb hinv HFIN
      go_wp2
      go_ret
      exact HP.out
/-- How many rows and bytes: below the bound? -/
def fewTo (l : List (List Nat)) : Nat → Nat
  | 0 => 0
  | k + 1 => if fewTo l k ≤ 4000 then fewTo l k + 1 + (l.getD k []).length else fewTo l k
def few (l : List (List Nat)) : Bool := decide (fewTo l l.length ≤ 4000)
theorem fewTo_mono (l : List (List Nat)) (k : Nat) (h : fewTo l (k + 1) ≤ 4000) : fewTo l k ≤ 4000 ∧ fewTo l (k + 1) = fewTo l k + 1 + (l.getD k []).length := by
  by_cases h0 : fewTo l k ≤ 4000
  · exact ⟨h0, by rw [fewTo, if_pos h0]⟩
  · rw [fewTo, if_neg h0] at h; exact absurd h h0
theorem fewTo_all (l : List (List Nat)) : ∀ n, fewTo l n ≤ 4000 → n ≤ 4000 ∧ n ≤ fewTo l n ∧ ∀ k, k < n → (l.getD k []).length ≤ 4000
  | 0, _ => ⟨by omega, by simp [fewTo], fun k hk => absurd hk (Nat.not_lt_zero _)⟩
  | n + 1, h => by
    obtain ⟨h1, h2⟩ := fewTo_mono l n h
    obtain ⟨h3, h4, h5⟩ := fewTo_all l n h1
    refine ⟨by omega, by omega, fun k hk => ?_⟩
    by_cases hkn : k < n
    · exact h5 k hkn
    · obtain rfl : k = n := by omega
      omega
theorem few_yes (l : List (List Nat)) (h : few l = true) : l.length ≤ 4000 ∧ ∀ k, (l.getD k []).length ≤ 4000 := by
  have h' := fewTo_all l l.length (by simpa [few] using h)
  refine ⟨h'.1, fun k => ?_⟩
  by_cases hk : k < l.length
  · exact h'.2.2 k hk
  · simp [List.getD_eq_getElem?_getD, List.getElem?_eq_none (Nat.le_of_not_lt hk)]
theorem fewTo_stop (l : List (List Nat)) (k : Nat) (h : ¬ fewTo l k ≤ 4000) : ∀ d, fewTo l (k + d) = fewTo l k
  | 0 => rfl
  | d + 1 => by rw [← Nat.add_assoc, fewTo, fewTo_stop l k h d, if_neg h]
theorem retbool {a b : Bool} (h : a = b) : Ending.returned (.bool a) = .returned (.bool b) := by rw [h]
set_option maxHeartbeats 1000000 in
theorem few_any (v : Value) (l : List (List Nat)) (w : World) (hv : Rws w v l) (hml : ∀ k, (l.getD k []).length ≤ 140737488351232) :
    Calls Try.prog 8 #[v] w fun e w' => e = .returned (.bool (few l)) ∧ Below w.heap.size w w' := by
  have hm := hv.len
  obtain ⟨a, cap, rfl, _⟩ := hv.slice
  have HV := Lib.hid hv.at.2
  have HD : Hid (few l = decide (fewTo l l.length ≤ 4000)) := rfl
  have HML := Lib.hid hml; clear hml
  clear hv
  generalize hn : l.length = n at *
  have HN := Lib.hid hn; clear hn
  unfold maxLen at hm
  go_enter Try.func8, Try.ntmps8
  go_wp2
  go_loopw [3, 4] (fun s i wr => ∃ k : Nat, k ≤ n ∧ i = .int .i64 k ∧ s = .int .i64 (fewTo l k : Nat) ∧ Below w.heap.size w wr) (fun _ i _ => (n - intOf i).toNat)
  case atStart => exact ⟨0, by omega, rfl, rfl, Below.refl _ _⟩
  case round =>
    obtain ⟨k, hk, rfl, rfl, hb⟩ := hrel
    by_cases h1 : k < n
    · by_cases h2 : fewTo l k ≤ 4000
      · obtain ⟨b1, o1, rfl, hb1, hc1⟩ := HV.out (by omega)
        obtain ⟨ra, rc, hc3, hr0⟩ := hc1 k h1
        have hc2 : wr.cell? ⟨b1, o1 + k, none⟩ = some (.slice ra (l.getD k []).length rc) := (hb.cell (p := ⟨b1, o1 + k, none⟩) hb1).trans hc3
        have hrl := HML.out k
        have HS : Hid (fewTo l (k + 1) = fewTo l k + 1 + (l.getD k []).length) := if_pos h2
        have HB := Lib.hid hb
        clear hc1 hc3 hr0 hb
        generalize (l.getD k []).length = r at *
        generalize hf : fewTo l k = f at *
        have HF := Lib.hid hf; clear hf
        go_wp2
        go_roundw
        case rel => exact ⟨k + 1, by omega, by go_num, by rw [HS.out]; go_num, HB.out⟩
        case measure => simp [intOf]; omega
      · have h2' : decide ((fewTo l k : Int) ≤ 4000) = false := by simp; omega
        have HP : Hid (few l = false) := by
          show few l = false
          rw [HD.out, show n = k + (n - k) by omega, fewTo_stop l k h2]; simpa using h2
        have HB := Lib.hid hb
        clear hb
        generalize hf : fewTo l k = f at *
        have HF := Lib.hid hf; clear hf
        go_wp2
        go_ret
        exact ⟨retbool (by rw [HP.out]), HB.out⟩
    · obtain rfl : k = n := by omega
      have HB := Lib.hid hb
      clear hb
      have HP : Hid (few l = decide (fewTo l k ≤ 4000)) := HD.out
      generalize hf : fewTo l k = f at *
      have HF := Lib.hid hf; clear hf
      go_wp2
      go_ret
      exact ⟨retbool (by rw [HP.out]; exact decide_eq_decide.2 (by omega)), HB.out⟩
end Go.Proofs.Ytomfgkgdlpajeaa
