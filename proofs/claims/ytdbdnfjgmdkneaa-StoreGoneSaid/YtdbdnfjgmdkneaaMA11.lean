/- In one text: StoId, StoGet, PutOwn, LogRef, LogRows, RefAt. -/
import Derived.WalkKit
import Derived.IntWalk
import Derived.Deep.DeepCutAuto
import Derived.Test.YtdbdnfjgmdkneaaMA1
import Derived.Test.YtdbdnfjgmdkneaaMA2
import Derived.Test.YtdbdnfjgmdkneaaMA5
import Derived.Test.YtdbdnfjgmdkneaaMA6
import Derived.Test.YtdbdnfjgmdkneaaMA7
namespace Go.Proofs.Ytdbdnfjgmdkneaa
set_option maxRecDepth 20000
open Go.RowKit Go.Deep Go.Maps
set_option linter.unusedVariables false
/-- An id: Peer, Number. -/
abbrev Ip := Int × Int
def zi : Ip := (0, 0)
def idc (x : Ip) : List Value := [.int .i64 x.1, .int .i64 x.2]
def fl2 (l : List Ip) : List Value := l.flatMap idc
theorem fl2_length : ∀ l : List Ip, (fl2 l).length = l.length * 2
  | [] => rfl
  | x :: l => by show (idc x ++ fl2 l).length = _; rw [List.length_append, fl2_length l, List.length_cons]; show 2 + _ = _; omega
theorem fl2_at : ∀ (l : List Ip) (k i : Nat), k < l.length → i < 2 → (fl2 l)[k * 2 + i]? = (idc (l.getD k zi))[i]?
  | x :: l, 0, i, _, hi => by
    show (idc x ++ fl2 l)[_]? = _
    rw [Nat.zero_mul, Nat.zero_add, List.getElem?_append_left (by show i < 2; exact hi)]; rfl
  | x :: l, k + 1, i, hk, hi => by
    show (idc x ++ fl2 l)[_]? = _
    rw [List.getElem?_append_right (by show 2 ≤ _; omega), show (k + 1) * 2 + i - (idc x).length = k * 2 + i by show (k + 1) * 2 + i - 2 = _; omega, fl2_at l k i (by simpa using hk) hi]
    rfl
/-- v is a slice that reads as these ids. -/
def IdsAt (w : World) (v : Value) (l : List Ip) : Prop :=
  (l = [] ∧ ∃ a cap, v = .slice a 0 cap) ∨
  ∃ b off cap, v = .slice (some ⟨b, off, none⟩) l.length cap ∧ l.length ≤ cap ∧ l.length ≤ maxLen ∧ b < w.heap.size ∧ ∀ k, k < l.length → w.cell? ⟨b, off + k * 2, none⟩ = some (.int .i64 (l.getD k zi).1) ∧ w.cell? ⟨b, off + k * 2 + 1, none⟩ = some (.int .i64 (l.getD k zi).2)
theorem IdsAt.ext {w w' : World} {v : Value} {l : List Ip} (h : IdsAt w v l) (hx : w.Extends w') : IdsAt w' v l := by
  rcases h with h | ⟨b, off, cap, h1, h2, h3, h4, h5⟩
  · exact .inl h
  · exact .inr ⟨b, off, cap, h1, h2, h3, Nat.lt_of_lt_of_le h4 hx.size, fun k hk => ⟨hx.cell_of (h5 k hk).1, hx.cell_of (h5 k hk).2⟩⟩
theorem IdsAt.slice {w : World} {v : Value} {l : List Ip} (h : IdsAt w v l) : ∃ a cap, v = .slice a l.length cap := by
  rcases h with ⟨rfl, a, cap, rfl⟩ | ⟨b, off, cap, rfl, _⟩
  · exact ⟨a, cap, rfl⟩
  · exact ⟨_, cap, rfl⟩
/-- v is a slice of a call's own of these ids. -/
def OwnI (w : World) (B : Nat) (v : Value) (l : List Ip) : Prop := w.ownsRow B 23 2 v l.length (fl2 l)
theorem OwnI.nil (w : World) (B : Nat) : OwnI w B (.slice none 0 0) [] := World.ownsRow_nil _ _ _ _
theorem OwnI.kinds {w : World} {B : Nat} {v : Value} {l : List Ip} (h : OwnI w B v l) : (v = .slice none 0 0 ∧ l = []) ∨ ∃ g cap, v = .slice (some ⟨g, 0, none⟩) l.length cap := by
  rcases h.2 with ⟨rfl, h0⟩ | ⟨g, cap, cur, rfl, _⟩
  · exact .inl ⟨rfl, List.eq_nil_of_length_eq_zero h0⟩
  · exact .inr ⟨g, cap, rfl⟩
theorem OwnI.slice {w : World} {B : Nat} {v : Value} {l : List Ip} (h : OwnI w B v l) : ∃ a cap, v = .slice a l.length cap := by
  rcases h.kinds with ⟨rfl, rfl⟩ | ⟨g, cap, rfl⟩
  · exact ⟨_, _, rfl⟩
  · exact ⟨_, _, rfl⟩
theorem OwnI.ext {w w' : World} {B : Nat} {v : Value} {l : List Ip} (h : OwnI w B v l) (hx : w.Extends w') : OwnI w' B v l := by
  have hg : w.grownBy w' none := ⟨hx.os, hx.tape, hx.output, hx.size, fun i hi _ => hx.block i hi⟩
  exact World.ownsRow.kept h hg (by cases v.ownBlock <;> simp)
theorem OwnI.at {w : World} {B : Nat} {v : Value} {l : List Ip} (h : OwnI w B v l) : IdsAt w v l := by
  rcases h.2 with ⟨rfl, h0⟩ | ⟨g, cap, cur, rfl, hbg, hg, hnc, hcm, hcs, htake⟩
  · exact .inl ⟨List.eq_nil_of_length_eq_zero h0, none, 0, rfl⟩
  · refine .inr ⟨g, 0, cap, rfl, hnc, Nat.le_trans hnc hcm, (Array.getElem?_eq_some_iff.1 hg).1, fun k hk => ?_⟩
    have e : ∀ i v, i < 2 → (idc (l.getD k zi))[i]? = some v → w.cell? ⟨g, k * 2 + i, none⟩ = some v := fun i v hi hv => by
      have := World.ownsRow.cells h (g := g) rfl (k * 2 + i) v (by rw [fl2_at l k i hk hi]; exact hv)
      rw [Addr.add_mid, Nat.zero_add] at this
      exact this
    exact ⟨by have := e 0 _ (by omega) rfl; simpa using this, by have := e 1 _ (by omega) rfl; simpa using this⟩
/-- Block g is an array of cap ids, of which the first n are f's. -/
def Arr2 (w : World) (g cap n : Nat) (f : Nat → Ip) : Prop := ∃ cur : List Value, w.heap[g]? = some (.cells cur.toArray 23 (0, 0)) ∧ cur.length = cap * 2 ∧ n ≤ cap ∧ cap ≤ maxLen ∧ ∀ k, k < n → ∀ i, i < 2 → cur[k * 2 + i]? = (idc (f k))[i]?
theorem OwnI.arr {w : World} {B g n cap : Nat} {l : List Ip} (h : OwnI w B (.slice (some ⟨g, 0, none⟩) n cap) l) : Arr2 w g cap n (fun k => l.getD k zi) ∧ n = l.length ∧ B ≤ g := by
  rcases h.2 with ⟨e, _⟩ | ⟨g', cap', cur, e, hb, hg, hnc, hcm, hcs, htake⟩
  · cases e
  · cases e
    refine ⟨⟨cur.toList, hg, by simpa using hcs, hnc, hcm, fun k hk i hi => ?_⟩, rfl, hb⟩
    rw [← fl2_at l k i hk hi, ← htake, List.getElem?_take, if_pos (by omega)]
theorem Arr2.lt {w : World} {g cap n : Nat} {f : Nat → Ip} (h : Arr2 w g cap n f) : g < w.heap.size := by
  obtain ⟨cur, h1, _⟩ := h
  exact (Array.getElem?_eq_some_iff.1 h1).1
theorem Arr2.own {w : World} {B g cap n m : Nat} {f : Nat → Ip} (h : Arr2 w g cap n f) (hB : B ≤ g) (hm : m ≤ n) {l : List Ip} (hl : l.length = m) (hf : ∀ k, k < m → f k = l.getD k zi) : OwnI w B (.slice (some ⟨g, 0, none⟩) m cap) l := by
  obtain ⟨cur, h1, h2, h3, h4, h5⟩ := h
  subst hl
  refine ⟨by rw [fl2_length], .inr ⟨g, cap, cur.toArray, rfl, hB, h1, by omega, h4, by simpa using h2, ?_⟩⟩
  rw [List.toList_toArray]
  apply List.ext_getElem?
  intro j
  rcases Nat.lt_or_ge j (l.length * 2) with hj | hj
  · have e : j = j / 2 * 2 + j % 2 := by omega
    rw [List.getElem?_take, if_pos hj, e, h5 (j / 2) (by omega) (j % 2) (by omega), fl2_at l (j / 2) (j % 2) (by omega) (by omega), hf _ (by omega)]
  · rw [List.getElem?_eq_none (by rw [List.length_take]; omega), List.getElem?_eq_none (by rw [fl2_length]; omega)]
theorem Arr2.frozen {w : World} {g cap n : Nat} {f : Nat → Ip} (h : Arr2 w g cap n f) (o : Nat) : w.frozen? ⟨g, o, none⟩ = false := by
  obtain ⟨cur, h1, _⟩ := h
  exact frozen_of_row _ _ _ _ _ h1
theorem Arr2.kept {w w' : World} {g cap n : Nat} {f : Nat → Ip} (h : Arr2 w g cap n f) (hg : w'.heap[g]? = w.heap[g]?) : Arr2 w' g cap n f := by
  obtain ⟨cur, h1, hr⟩ := h
  exact ⟨cur, hg.trans h1, hr⟩
theorem Arr2.ext {w w' : World} {g cap n : Nat} {f : Nat → Ip} (h : Arr2 w g cap n f) (hx : w.Extends w') : Arr2 w' g cap n f := h.kept (hx.block g h.lt)
def upi (f : Nat → Ip) (i : Nat) (p : Ip) : Nat → Ip := fun k => if k = i then p else f k
theorem Arr2.put {w : World} {g cap n i : Nat} {f : Nat → Ip} (h : Arr2 w g cap n f) (hi : i < n) (p : Ip) {cur : List Value} (hc : w.heap[g]? = some (.cells cur.toArray 23 (0, 0))) : Arr2 (w.setRow g (cur.take (i * 2) ++ idc p ++ cur.drop (i * 2 + 2)).toArray) g cap n (upi f i p) := by
  obtain ⟨cur', h1, h2, h3, h4, h5⟩ := h
  rw [hc] at h1
  simp only [Option.some.injEq, Obj.cells.injEq, and_true] at h1
  have e : cur = cur' := by simpa using h1
  subst e
  have hp : (idc p).length = 2 := rfl
  refine ⟨_, setRow_heap w g _ _ _ _ hc, ?_, h3, h4, fun k hk j hj => ?_⟩
  · simp only [List.length_append, List.length_take, List.length_drop, hp]; omega
  · unfold upi
    rcases Nat.lt_trichotomy k i with hki | hki | hki
    · rw [if_neg (by omega), List.append_assoc, List.getElem?_append_left (by rw [List.length_take]; omega), List.getElem?_take, if_pos (by omega)]
      exact h5 k hk j hj
    · subst hki
      rw [if_pos rfl, List.append_assoc, List.getElem?_append_right (by rw [List.length_take]; omega), List.getElem?_append_left (by rw [List.length_take, hp]; omega), List.length_take]
      congr 1; omega
    · rw [if_neg (by omega), List.getElem?_append_right (by rw [List.length_append, List.length_take, hp]; omega), List.getElem?_drop]
      rw [← h5 k hk j hj]
      congr 1
      rw [List.length_append, List.length_take, hp]; omega
theorem idinfo : (Try.prog.info? 23).map (fun i => (i.zero, i.size, i.bytes)) = some (some (.agg #[.int .i64 0, .int .i64 0]), 2, 16) := by kernel_rfl
theorem idUnder : Try.prog.underlying 68 = some (.slice 23) := Try.underlying68
theorem idZero (w : World) : (zeroValue 23).run Try.prog w = .ok (.agg #[.int .i64 0, .int .i64 0]) w := by
  obtain ⟨i, hi, hz, _⟩ := info_parts idinfo
  simp [zeroValue, typeInfo, hi, hz]
theorem Arr2.cleared {w : World} {g cap n i : Nat} {f : Nat → Ip} (h : Arr2 w g cap n f) (hi : i < n) (c : Nat) : ∃ w', (∀ ty, (Builtin.clear_ #[68] ty #[.slice (some ⟨g, i * 2, none⟩) (n - i) c]).run Try.prog w = .ok (.tuple #[]) w') ∧ Arr2 w' g cap i f ∧ w.grownBy w' (some g) := by
  obtain ⟨cur, h1, h2, h3, h4, h5⟩ := h
  have hz2 : (Value.agg #[.int .i64 0, .int .i64 0]).cells.size = 2 := rfl
  refine ⟨_, fun ty => run_clear_wide w 68 23 ty (.agg #[.int .i64 0, .int .i64 0]) idUnder idZero g (i * 2) (n - i) c cur.toArray _ (by omega) h1 (by rw [hz2]; simp; omega) (by decide), ?_, grown_setRow _ _ _⟩
  refine ⟨_, setRow_heap w g _ _ _ _ h1, ?_, by omega, h4, fun k hk j hj => ?_⟩
  · rw [hz2]
    simp only [List.length_append, List.length_take, List.length_drop, Array.length_toList, size_zeroCells, hz2]; omega
  · rw [List.toList_toArray, List.append_assoc, List.getElem?_append_left (by rw [List.length_take]; omega), List.getElem?_take, if_pos (by omega)]
    exact h5 k (by omega) j hj
namespace SM
end SM
end Go.Proofs.Ytdbdnfjgmdkneaa
namespace Go.Proofs.Ytdbdnfjgmdkneaa
set_option maxRecDepth 20000
open Go.RowKit Go.Deep Go.Maps
set_option linter.unusedVariables false
/-- Records that a call answers, in memory of its own. -/
def RcsOut (w : World) (l : List Rc) (e : Ending) (w' : World) : Prop := ∃ v, e = .returned v ∧ w.Extends w' ∧ Recs w' v l
def getTo (r : Rc) (ps : List Pr) (k : Nat) : List Rc := ((ps.take k).map (·.1)).filter (isOf r)
theorem getTo_yes {r : Rc} {ps : List Pr} {k : Nat} (h : k < ps.length) (hq : isOf r (ps.getD k zp).1 = true) : getTo r ps (k + 1) = getTo r ps k ++ [(ps.getD k zp).1] := by
  unfold getTo
  rw [take_snocp ps k h, List.map_append, List.filter_append]
  congr 1
  rw [List.map_singleton, List.filter_cons]
  simp only [hq]
  simp
theorem getTo_no {r : Rc} {ps : List Pr} {k : Nat} (h : k < ps.length) (hq : isOf r (ps.getD k zp).1 = false) : getTo r ps (k + 1) = getTo r ps k := by
  unfold getTo
  rw [take_snocp ps k h, List.map_append, List.filter_append, List.map_singleton, List.filter_cons]
  simp only [hq]
  simp
theorem getTo_le (r : Rc) (ps : List Pr) (k : Nat) : (getTo r ps k).length ≤ k := by
  unfold getTo
  refine Nat.le_trans (List.length_filter_le _ _) ?_
  rw [List.length_map, List.length_take]; omega
theorem copy_rok {w w' : World} {xs : List Nat} {a : Option Addr} {c : Nat} (h : CopyOut w xs (.returned (.slice a xs.length c)) w') : RowOk w' 0 (.slice a xs.length c) xs := by
  obtain ⟨a', c', e, _, hu, hb⟩ := h
  simp only [Ending.returned.injEq, Value.slice.injEq] at e
  obtain ⟨rfl, _, rfl⟩ := e
  exact ⟨hu, .inr fun g hg => ⟨(hb g hg).1.2, .inr (hb g hg).2⟩⟩
theorem RMats.box {w w' : World} {B z k : Nat} {v : Value} {l : List Rc} {cs : Array Value} {f : Nat × Nat} (h : RMats w B 0 v k l) (hg : w.grownBy w' (some z)) (hv : v.ownBlock ≠ some z) (hz : w.heap[z]? = some (.cells cs 28 f)) : RMats w' B 0 v k l := by
  obtain ⟨vs, ho, hr⟩ := h
  refine ⟨vs, ho.kept hg (.inr hv), fun j hj => ?_⟩
  obtain ⟨u, h1, h2⟩ := hr j hj
  refine ⟨u, h1, h2.grown hg ?_⟩
  rcases h2.2 with h3 | h3
  · exact .inl h3
  · refine .inr fun e => ?_
    obtain ⟨_, h4⟩ := h3 z e
    rcases h4 with h4 | ⟨cs', h4⟩
    · omega
    · rw [hz] at h4
      simp only [Option.some.injEq, Obj.cells.injEq] at h4
      exact absurd h4.2.1 (by decide)
set_option maxHeartbeats 2000000 in
theorem get16_any (t : Nat) (D : Nat → Prop) (st : Sto) (r : Rc) (w : World) (h : SAt w t D st) (hl : st.l.length ≤ 1000) (hs : ∀ x ∈ st.l, KM.Right x ∧ x.g = false) :
    Calls Try.prog 43 #[.pointer (some ⟨t, 0, none⟩), .agg #[.int .i64 r.p, .int .i64 r.n]] w (RcsOut w (st.l.filter (isOf r))) := by
  obtain ⟨v, mp, ps, h⟩ := h
  have HH := Lib.hid h
  have HAT := Lib.hid h.range
  have HSL : Hid (∀ k, k < ps.length → Slc (ps.getD k zp)) := fun k hk => h.own.2 _ (getD_mem hk)
  have HDT : Hid (∀ k, k < ps.length → U8s w (ps.getD k zp).2 (ps.getD k zp).1.d ∧ (ps.getD k zp).1.d ≠ [] ∧ (ps.getD k zp).1.d.length ≤ 64) := fun k hk => by
    have hm : (ps.getD k zp).1 ∈ st.l := by rw [← h.recs]; exact List.mem_map.2 ⟨_, getD_mem hk, rfl⟩
    obtain ⟨h1, h2⟩ := hs _ hm
    obtain ⟨⟨⟨_, _, h3, h4, _⟩, _⟩, _, h8⟩ := h1.2.2.2.2 h2
    refine ⟨(h.data _ (getD_mem hk)).1, fun e => ?_, by omega⟩
    have h0 : (ps.getD k zp).1.d.length = 0 := by rw [e]; rfl
    omega
  obtain ⟨p, hb, c2, c3, c4, f3, f4⟩ := h.cells
  have HC := Lib.hid c3
  have HY : Hid (∀ k, k < ps.length → isOf r (ps.getD k zp).1 = true → getTo r ps (k + 1) = getTo r ps k ++ [(ps.getD k zp).1]) := fun k hk hq => getTo_yes hk hq
  have HN : Hid (∀ k, k < ps.length → isOf r (ps.getD k zp).1 = false → getTo r ps (k + 1) = getTo r ps k) := fun k hk hq => getTo_no hk hq
  have HLE := Lib.hid (getTo_le r ps)
  have HG0 : Hid (getTo r ps 0 = []) := by show _ = _; simp [getTo]
  have HGN : Hid (getTo r ps ps.length = st.l.filter (isOf r)) := by
    unfold getTo; rw [List.take_length, ← h.recs]; rfl
  have HIS : Hid (∀ x : Rc, isOf r x = decide (x.p = r.p ∧ x.n = r.n)) := fun x => rfl
  rw [← h.len] at hl
  obtain ⟨a, cap, rfl⟩ := h.own.slice
  obtain ⟨i2, hi', hz0', hz1', hz2'⟩ := info_parts recinfo
  have HI' := Lib.hid hi'; clear hi'
  have HZ0' := Lib.hid hz0'; clear hz0'
  have HZ1' := Lib.hid hz1'; clear hz1'
  have HZ2' := Lib.hid hz2'; clear hz2'
  clear h hb c2 c3 c4 f3 f4 hs HH
  generalize ps.length = n at *
  generalize st.l.filter (isOf r) = L at *
  generalize r.p = rp at *
  generalize r.n = rn at *
  generalize getTo r ps = G at *
  go_enter Try.func43, Try.ntmps43
  go_upto_region 1 with fail
  generalize hw1 : World.alloc w _ = w1
  have hx1 : w.Extends w1 := by subst hw1; exact ext_alloc _ _
  obtain ⟨d0, d1⟩ : w1.cell? ⟨w.heap.size, 0, none⟩ = some (.int .i64 rp) ∧ w1.cell? ⟨w.heap.size, 1, none⟩ = some (.int .i64 rn) := by subst hw1; exact box_id w 23 rp rn
  have HX1 := Lib.hid hx1
  have HD0 := Lib.hid d0
  have HD1 := Lib.hid d1
  have hc := hx1.cell_of HC.out
  clear hw1 hx1 d0 d1
  generalize w.heap.size = y at *
  go_wp2_with fail
  go_loopw [5, 15] (fun s5 s15 wr => ∃ k : Nat, k ≤ n ∧ s15 = .int .i64 k ∧ Hid (w1.Extends wr) ∧ Hid (RMats wr w1.heap.size 0 s5 (G k).length (G k))) (fun _ s15 _ => n - (intOf s15).toNat)
  case atStart => exact ⟨0, by omega, rfl, Gr.ext_refl _, by rw [HG0.out]; exact RMats.nil _ _ _ _⟩
  case round =>
    clear hc
    obtain ⟨k, hk, rfl, HX, HM⟩ := hrel
    by_cases h1 : k < n
    · obtain ⟨g, ⟨cap', e⟩, hr⟩ := HAT.out k h1
      cases e
      have hr := rangeAt_ext hr (Gr.ext_trans HX1.out HX.out)
      obtain ⟨c0, c1, c2, c3, c4, c5, c6, c7, c8, c9⟩ := RCell.ten hr
      have HSK := Lib.hid (HSL.out k h1)
      have HDK := Lib.hid (HDT.out k h1)
      have HYK := Lib.hid (HY.out k h1)
      have HNK := Lib.hid (HN.out k h1)
      have HLK := Lib.hid (HLE.out k)
      have HISK := Lib.hid (HIS.out (ps.getD k zp).1)
      clear hr
      generalize ps.getD k zp = p at *
      obtain ⟨⟨xp, xn, xb, xs, xm, xk, xe, xg, xu, xd⟩, u⟩ := p
      obtain ⟨ua, uc, hu⟩ := HSK.out
      simp only at hu
      subst hu
      simp only at c0 c1 c2 c3 c4 c5 c6 c7 c8 c9
      have d0 := HX.out.cell_of HD0.out
      have d1 := HX.out.cell_of HD1.out
      obtain ⟨va, vc, rfl⟩ := HM.out.slice
      by_cases hid : xp = rp ∧ xn = rn
      · have hG := HYK.out (by rw [HISK.out]; exact decide_eq_true hid)
        obtain ⟨rfl, rfl⟩ := hid
        have HGK := Lib.hid hG
        clear HYK HNK HISK hG
        go_upto_region 7 with fail
        generalize hwb : World.alloc wr _ = wb
        have hxb : wr.Extends wb := by subst hwb; exact ext_alloc _ _
        have ha : Arr wb wr.heap.size 1 1 (fun _ => (⟨xp, xn, xb, xs, xm, xk, xe, xg, xu, xd⟩, .slice ua xd.length uc)) := by subst hwb; exact Arr.box wr ⟨xp, xn, xb, xs, xm, xk, xe, xg, xu, xd⟩ _
        have hzw : w1.heap.size ≤ wr.heap.size := HX.out.size
        obtain ⟨z, hz⟩ : ∃ z, z = wr.heap.size := ⟨_, rfl⟩
        rw [← hz] at ha hzw ⊢
        have HZW := Lib.hid hz
        clear hz hwb c0 c1 c2 c3 c4 c5 c6 c7 c8 c9
        obtain ⟨c0, c1, c2, c3, c4, c5, c6, c7, c8, c9⟩ := RCell.ten (ha.one rfl)
        simp only [Nat.zero_add] at c0 c1 c2 c3 c4 c5 c6 c7 c8 c9
        have d0' := hxb.cell_of d0
        have d1' := hxb.cell_of d1
        have HXB := Lib.hid (Gr.ext_trans HX.out hxb)
        have HMB := Lib.hid (HM.out.ext hxb)
        have HAB := Lib.hid ha
        have HCL := Lib.hid (clone_any (.slice ua xd.length uc) xd wb (HDK.out.1.ext (Gr.ext_trans HX1.out HXB.out)) HDK.out.2.1 (by have := HDK.out.2.2; simp only at this; omega))
        clear hxb ha d0 d1 HDK
        go_wp2_with fail
        refine HCL.out.mono ?_
        rintro e w6 ⟨a2, c2', rfl, hx6, hu6, hb6⟩
        have HRK : Hid (RowOk w6 0 (.slice a2 xd.length c2') xd) := copy_rok ⟨a2, c2', rfl, hx6, hu6, hb6⟩
        have HA6 := Lib.hid (HAB.out.ext hx6)
        have HX6 := Lib.hid (Gr.ext_trans HXB.out hx6)
        have HM6 := Lib.hid (HMB.out.ext hx6)
        have f9 := HA6.out.frozen 9
        clear c0 c1 c2 c3 c4 c5 c6 c7 c8 c9 d0' d1' HCL hx6 hu6 hb6 HXB HMB HAB
        obtain ⟨c0, c1, c2, c3, c4, c5, c6, c7, c8, c9⟩ := RCell.ten (HA6.out.one rfl)
        simp only [Nat.zero_add] at c0 c1 c2 c3 c4 c5 c6 c7 c8 c9
        go_upto_region 9 with fail
        generalize hw7 : World.setCell w6 _ _ = w7
        obtain ⟨ha7, hg7⟩ := HA6.out.datum (i := 0) (w' := w7) (by omega) (.slice a2 xd.length c2') hw7.symm
        have hzb : ∃ cs, w6.heap[z]? = some (.cells cs 28 (0, 0)) := by obtain ⟨cur, hc, _⟩ := HA6.out; exact ⟨_, hc⟩
        have hvz : (Value.slice va (G k).length vc).ownBlock ≠ some z := fun e => by
          obtain ⟨vs, ho, _⟩ := HM.out
          have := (ho.lt z e).2
          have := HZW.out
          omega
        have HM7 : Hid (RMats w7 w1.heap.size 0 (.slice va (G k).length vc) (G k).length (G k)) := by
          obtain ⟨cs, hc⟩ := hzb
          exact HM6.out.box hg7 hvz hc
        have HX7 : Hid (w1.Extends w7) := HX6.out.grown hg7 (fun j hj => by have := Option.some.inj hj; omega)
        have HRK7 : Hid (RowOk w7 0 (.slice a2 xd.length c2') xd) := HRK.out.grown hg7 (by
          rcases HRK.out.2 with h3 | h3
          · exact .inl h3
          · refine .inr fun e => ?_
            obtain ⟨_, h4⟩ := h3 z e
            obtain ⟨cs, hc⟩ := hzb
            rcases h4 with h4 | ⟨cs', h4⟩
            · omega
            · rw [hc] at h4
              simp only [Option.some.injEq, Obj.cells.injEq] at h4
              exact absurd h4.2.1 (by decide))
        clear hw7 hg7 hzb hvz c0 c1 c2 c3 c4 c5 c6 c7 c8 c9 HM HM6 HX HX6 HRK HA6 f9
        obtain ⟨c0, c1, c2, c3, c4, c5, c6, c7, c8, c9⟩ := RCell.ten (ha7.one (p := (⟨xp, xn, xb, xs, xm, xk, xe, xg, xu, xd⟩, .slice a2 xd.length c2')) rfl)
        simp only [Nat.zero_add] at c0 c1 c2 c3 c4 c5 c6 c7 c8 c9
        clear ha7
        have hx8 : w7.Extends (w7.alloc (.cells (Rc.cells ⟨xp, xn, xb, xs, xm, xk, xe, xg, xu, xd⟩ (.slice a2 xd.length c2')).toArray 28)) := ext_alloc _ _
        have HSRC : Hid (Src Try.prog 10 47 (.slice (some ⟨w7.heap.size, 0, none⟩) 1 1) 1 (Rc.cells ⟨xp, xn, xb, xs, xm, xk, xe, xg, xu, xd⟩ (.slice a2 xd.length c2')) (w7.alloc (.cells (Rc.cells ⟨xp, xn, xb, xs, xm, xk, xe, xg, xu, xd⟩ (.slice a2 xd.length c2')).toArray 28))) := src_rec (r := ⟨xp, xn, xb, xs, xm, xk, xe, xg, xu, xd⟩) Try.underlying47 _ _ rfl rfl
        have HM8 := Lib.hid (HM7.out.ext hx8)
        have HRK8 := Lib.hid (HRK7.out.ext hx8)
        have HX8 := Lib.hid (Gr.ext_trans HX7.out hx8)
        obtain ⟨vs, hown, hrows⟩ := HM8.out
        have HOWN := Lib.hid hown
        have HROWS := Lib.hid hrows
        have HOB : Hid (∀ g, (Value.slice va (G k).length vc).ownBlock = some g → w1.heap.size ≤ g) := fun g hg => (HOWN.out.lt g hg).1
        have hbs := HX8.out.size
        have hgk := HLK.out
        clear hx8 hown hrows HM8 HM7 HX7 HRK7
        generalize hgl : (G k).length = gl at *
        have HGL := Lib.hid hgl
        clear hgl
        go_wp2_with (at_builtin; refine wpList_append_own_src _ rfl _ _ 47 47 rfl w1.heap.size 28 i2 (Rc.zero.val (.slice none 0 0)) 10 96 Try.underlying47 HI'.out HZ0'.out HZ1'.out HZ2'.out rfl _ _ _ rfl HOWN.out _ 1 (Rc.cells ⟨xp, xn, xb, xs, xm, xk, xe, xg, xu, xd⟩ (.slice a2 xd.length c2')) rfl HSRC.out (by unfold maxLen; omega) (by omega) hbs ?_)
        intro v' w9 ho9 hg9 _
        have HP : Hid (w1.Extends w9 ∧ RMats w9 w1.heap.size 0 v' (G (k + 1)).length (G (k + 1))) := by
          refine ⟨HX8.out.grown hg9 HOB.out, ?_⟩
          rw [HGK.out, List.length_append, HGL.out]
          exact RMats.snoc (Nat.zero_le _) HGL.out.symm HOWN.out HROWS.out HRK8.out hg9 ho9
        clear ho9 hg9 c0 c1 c2 c3 c4 c5 c6 c7 c8 c9 HSRC HOWN HROWS HOB HX8 HRK8
        go_wp2
        go_roundw
        case rel => exact ⟨k + 1, by omega, by go_num, Lib.hid HP.out.1, Lib.hid HP.out.2⟩
        case measure => simp [intOf]; omega
      · have hG := HNK.out (by rw [HISK.out]; exact decide_eq_false hid)
        have HGK := Lib.hid hG
        clear HYK HNK HISK hG
        have HXA : Hid (∀ w', wr.Extends w' → w1.Extends w' ∧ RMats w' w1.heap.size 0 (.slice va (G k).length vc) (G (k + 1)).length (G (k + 1))) := fun w' hx => ⟨Gr.ext_trans HX.out hx, by rw [HGK.out]; exact HM.out.ext hx⟩
        clear HM
        go_upto_region 7 with fail
        generalize hwb : World.alloc wr _ = wb
        have hxb : wr.Extends wb := by subst hwb; exact ext_alloc _ _
        have ha : Arr wb wr.heap.size 1 1 (fun _ => (⟨xp, xn, xb, xs, xm, xk, xe, xg, xu, xd⟩, .slice ua xd.length uc)) := by subst hwb; exact Arr.box wr ⟨xp, xn, xb, xs, xm, xk, xe, xg, xu, xd⟩ _
        clear hwb c0 c1 c2 c3 c4 c5 c6 c7 c8 c9
        obtain ⟨c0, c1, c2, c3, c4, c5, c6, c7, c8, c9⟩ := RCell.ten (ha.one rfl)
        simp only [Nat.zero_add] at c0 c1 c2 c3 c4 c5 c6 c7 c8 c9
        have d0' := hxb.cell_of d0
        have d1' := hxb.cell_of d1
        have HXB := Lib.hid (HXA.out wb hxb)
        clear hxb ha d0 d1 HXA
        generalize wr.heap.size = z at *
        by_cases hp : xp = rp
        · have hn : ¬ xn = rn := fun e => hid ⟨hp, e⟩
          subst hp
          clear hid
          go_wp2
          go_roundw
          case rel => exact ⟨k + 1, by omega, by go_num, HXB.out.1, HXB.out.2⟩
          case measure => simp [intOf]; omega
        · clear hid
          go_wp2
          go_roundw
          case rel => exact ⟨k + 1, by omega, by go_num, HXB.out.1, HXB.out.2⟩
          case measure => simp [intOf]; omega
    · obtain rfl : k = n := by omega
      obtain ⟨va, vc, rfl⟩ := HM.out.slice
      have HP : Hid (RcsOut w L (.returned (.slice va (G k).length vc)) wr) := by
        refine ⟨_, rfl, Gr.ext_trans HX1.out HX.out, ?_⟩
        rw [← HGN.out]
        exact HM.out.recs rfl
      clear HM
      generalize (G k).length = gl at *
      go_wp2
      go_ret
      exact HP.out
end Go.Proofs.Ytdbdnfjgmdkneaa
namespace Go.Proofs.Ytdbdnfjgmdkneaa
set_option maxRecDepth 20000
open Go.RowKit Go.Deep
set_option linter.unusedVariables false
/-- The array is that of v, or a new one. -/
def NewBlk (w : World) (v v' : Value) : Prop := v'.ownBlock = v.ownBlock ∨ ∃ g, v'.ownBlock = some g ∧ w.heap.size ≤ g
theorem NewBlk.next {a b : World} {v v' v'' : Value} (h : NewBlk a v v') (hs : a.heap.size ≤ b.heap.size) (k : v''.ownBlock = v'.ownBlock ∨ ∃ g, v''.ownBlock = some g ∧ b.heap.size ≤ g) : NewBlk a v v'' := by
  rcases k with e | ⟨g, e, hg⟩
  · rcases h with e' | ⟨g, e', hg⟩
    · exact .inl (e.trans e')
    · exact .inr ⟨g, e.trans e', hg⟩
  · exact .inr ⟨g, e, Nat.le_trans hs hg⟩
end Go.Proofs.Ytdbdnfjgmdkneaa
namespace Go.Proofs.Ytdbdnfjgmdkneaa
set_option maxRecDepth 20000
open Go.RowKit Go.Deep
set_option linter.unusedVariables false
/-- A log of the reference lies at block t of type T from cell o on, behind L: its bytes, how many are sure; its array is one of D. -/
def RAt (w : World) (t o : Nat) (L : List Value) (T : TypeId) (D : Nat → Prop) (bs : List Nat) (s : Nat) : Prop := ∃ a c, w.heap[t]? = some (.cells (L ++ [Value.slice a bs.length c, Value.int .i64 ((s : Nat) : Int)]).toArray T (0, 0)) ∧ L.length = o ∧ T ≠ 5 ∧ w.ownsRow 0 5 1 (.slice a bs.length c) bs.length (u8vs bs) ∧ ∀ g, (Value.slice a bs.length c).ownBlock = some g → D g
theorem RAt.lt {w : World} {t o s : Nat} {L : List Value} {T : TypeId} {D : Nat → Prop} {bs : List Nat} (h : RAt w t o L T D bs s) : t < w.heap.size := by
  obtain ⟨a, c, h1, _⟩ := h
  exact (Array.getElem?_eq_some_iff.1 h1).1
theorem RAt.new (w : World) (D : Nat → Prop) : RAt (w.alloc (.cells #[.slice none 0 0, .int .i64 0] 62)) w.heap.size 0 [] 62 D [] 0 :=
  ⟨none, 0, heap_alloc_new _ _, rfl, by decide, World.ownsRow_nil _ _ _ _, fun g hg => by cases hg⟩
theorem owns_at {w : World} {v : Value} {n g : Nat} {T : TypeId} {vs : List Value} {B : Nat} (h : w.ownsRow B T 1 v n vs) (hg : v.ownBlock = some g) : ∃ cs, w.heap[g]? = some (.cells cs T (0, 0)) := by
  rcases h.2 with ⟨rfl, _⟩ | ⟨g', cap, cur, rfl, hbg, hh, _⟩
  · cases hg
  · simp only [Value.ownBlock, Option.some.injEq] at hg
    subst hg
    exact ⟨cur, hh⟩
section
variable {w w' : World} {t o s : Nat} {L : List Value} {T : TypeId} {D : Nat → Prop} {bs : List Nat}
theorem two_last (a b : Value) (L : List Value) (h : L.length = o) : (L ++ [a, b]).toArray[o]? = some a ∧ (L ++ [a, b]).toArray[o + 1]? = some b := by subst h; exact ⟨by simp, by simp⟩
theorem RAt.keep (h : RAt w t o L T D bs s) (ht : w'.heap[t]? = w.heap[t]?) (hD : ∀ (g : Nat) (cs : Array Value), D g → w.heap[g]? = some (.cells cs 5 (0, 0)) → w'.heap[g]? = w.heap[g]?) : RAt w' t o L T D bs s := by
  obtain ⟨a, c, h1, h5, h6, h2, h3⟩ := h
  refine ⟨a, c, ht.trans h1, h5, h6, ⟨h2.1, ?_⟩, h3⟩
  rcases h2.2 with h4 | ⟨g, cap, cur, hv, hb, hh, hrest⟩
  · exact .inl h4
  · refine .inr ⟨g, cap, cur, hv, hb, ?_, hrest⟩
    rw [hD g cur (h3 g (by rw [hv]; rfl)) hh]; exact hh
theorem RAt.ext (h : RAt w t o L T D bs s) (hx : w.Extends w') : RAt w' t o L T D bs s :=
  h.keep (hx.block t h.lt) fun g cs _ hg => hx.block g (Array.getElem?_eq_some_iff.1 hg).1
theorem RAt.mono {D' : Nat → Prop} (h : RAt w t o L T D bs s) (hD : ∀ g, g < w.heap.size → D g → D' g) : RAt w t o L T D' bs s := by
  obtain ⟨a, c, h1, h5, h6, h2, h3⟩ := h
  refine ⟨a, c, h1, h5, h6, h2, fun g hg => ?_⟩
  obtain ⟨cs, hc⟩ := owns_at h2 hg
  exact hD g (Array.getElem?_eq_some_iff.1 hc).1 (h3 g hg)
/-- It stays where another block may be written, that is none of D's or holds no bytes. -/
theorem RAt.grown {g : Nat} (h : RAt w t o L T D bs s) (hg : w.grownBy w' (some g)) (hn : t ≠ g) (hD : ¬ D g ∨ ∃ cs T f, w.heap[g]? = some (.cells cs T f) ∧ T ≠ 5) : RAt w' t o L T D bs s :=
  h.keep (hg.block t h.lt (by simpa using hn)) fun i cs hi hc => hg.block i (Array.getElem?_eq_some_iff.1 hc).1 (fun e => by
    have e' := Option.some.inj e
    subst e'
    rcases hD with hD | ⟨cs', T, f, hc', hT⟩
    · exact hD hi
    · rw [hc] at hc'
      simp only [Option.some.injEq, Obj.cells.injEq] at hc'
      exact hT hc'.2.1.symm)
end
/-- What an append of the reference's log may write: its block t, and bytes in a block of D. -/
structure Touch (D : Nat → Prop) (t : Nat) (w w' : World) : Prop where
  os : w'.os = w.os
  tape : w'.tape = w.tape
  output : w'.output = w.output
  size : w.heap.size ≤ w'.heap.size
  away : ∀ i, i < w.heap.size → i ≠ t → ¬ D i → w'.heap[i]? = w.heap[i]?
  other : ∀ (i : Nat) (cs : Array Value) (T : TypeId) (f : Nat × Nat), w.heap[i]? = some (.cells cs T f) → i ≠ t → T ≠ 5 → w'.heap[i]? = w.heap[i]?
theorem Touch.below {D : Nat → Prop} {t B : Nat} {w w' : World} (h : Touch D t w w') (hB : B ≤ t) (hs : B ≤ w.heap.size) (hD : ∀ i, D i → B ≤ i) : Below B w w' :=
  ⟨h.os, h.tape, h.output, h.size, fun k hk => h.away k (by omega) (by omega) (fun hd => by have := hD k hd; omega)⟩
theorem RAt.shape {w : World} {t o s : Nat} {L : List Value} {T : TypeId} {D : Nat → Prop} {bs : List Nat} (h : RAt w t o L T D bs s) : ∃ cs f, w.heap[t]? = some (.cells cs T f) := by
  obtain ⟨a, c, h1, _⟩ := h
  exact ⟨_, _, h1⟩
theorem RAt.cells {w : World} {t o s : Nat} {L : List Value} {T : TypeId} {D : Nat → Prop} {bs : List Nat} (h : RAt w t o L T D bs s) : ∃ a c, w.cell? ⟨t, o, none⟩ = some (.slice a bs.length c) ∧ w.cell? ⟨t, o + 1, none⟩ = some (.int .i64 ((s : Nat) : Int)) ∧ w.frozen? ⟨t, o, none⟩ = false ∧ w.frozen? ⟨t, o + 1, none⟩ = false ∧
    w.ownsRow 0 5 1 (.slice a bs.length c) bs.length (u8vs bs) ∧ (∀ g, (Value.slice a bs.length c).ownBlock = some g → D g) ∧ w.heap[t]? = some (.cells (L ++ [Value.slice a bs.length c, Value.int .i64 ((s : Nat) : Int)]).toArray T (0, 0)) ∧ L.length = o ∧ T ≠ 5 := by
  obtain ⟨a, c, h1, h5, h6, h2, h3⟩ := h
  exact ⟨a, c, by rw [cell_of_row _ _ _ _ _ _ h1]; exact (two_last _ _ _ h5).1, by rw [cell_of_row _ _ _ _ _ _ h1]; exact (two_last _ _ _ h5).2, frozen_of_row _ _ _ _ _ h1, frozen_of_row _ _ _ _ _ h1, h2, h3, h1, h5, h6⟩
end Go.Proofs.Ytdbdnfjgmdkneaa
namespace Go.Proofs.Ytdbdnfjgmdkneaa
set_option maxRecDepth 20000
open Go.RowKit Go.Deep
set_option linter.unusedVariables false
/-- v reads as l; its array in memory from B on, the rows in blocks of bytes. -/
def RwsB (w : World) (B : Nat) (v : Value) (l : List (List Nat)) : Prop :=
  (l = [] ∧ ∃ a cap, v = .slice a 0 cap) ∨
  ∃ b off cap, v = .slice (some ⟨b, off, none⟩) l.length cap ∧ l.length ≤ cap ∧ cap ≤ maxLen ∧ B ≤ b ∧ b < w.heap.size ∧ ∀ k, k < l.length → ∃ u, w.cell? ⟨b, off + k, none⟩ = some u ∧ RowB w u (l.getD k [])
theorem RwsB.old {w : World} {B : Nat} {v : Value} {l : List (List Nat)} (h : RwsB w B v l) : Rws w v l := by
  rcases h with h | ⟨b, off, cap, h1, h2, h3, _, h4, h5⟩
  · exact .inl h
  · exact .inr ⟨b, off, cap, h1, h2, h3, h4, fun k hk => by obtain ⟨u, h6, h7⟩ := h5 k hk; exact ⟨u, h6, h7.1⟩⟩
/-- Rows that a call answers, in memory of its own. -/
def LMade (w : World) (l : List (List Nat)) (e : Ending) (w' : World) : Prop := ∃ v, e = .returned v ∧ w.Extends w' ∧ RwsB w' w.heap.size v l
theorem LMade.old {w w' : World} {l : List (List Nat)} {e : Ending} (h : LMade w l e w') : MadeList w l e w' := by
  obtain ⟨v, h1, h2, h3⟩ := h
  exact ⟨v, h1, h2, h3.old⟩
theorem RwsB.ext {w w' : World} {B : Nat} {v : Value} {l : List (List Nat)} (h : RwsB w B v l) (hx : w.Extends w') : RwsB w' B v l := by
  rcases h with h | ⟨b, off, cap, h1, h2, h3, h6, h4, h5⟩
  · exact .inl h
  · exact .inr ⟨b, off, cap, h1, h2, h3, h6, Nat.lt_of_lt_of_le h4 hx.size, fun k hk => by obtain ⟨u, h7, h8⟩ := h5 k hk; exact ⟨u, hx.cell_of h7, h8.ext hx⟩⟩
/-- The rows of such a slice lie in memory from B on. -/
def LocN (w : World) (B : Nat) (v : Value) (k : Nat) : Prop := ∃ vs, w.ownsRow B 26 1 v k vs ∧ ∀ u ∈ vs, ∀ g, u.ownBlock = some g → B ≤ g
theorem LocN.nil (w : World) (B : Nat) : LocN w B (.slice none 0 0) 0 := ⟨[], World.ownsRow_nil _ _ _ _, fun u hu => by cases hu⟩
theorem LocN.ext {w w' : World} {B k : Nat} {v : Value} (h : LocN w B v k) (hx : w.Extends w') : LocN w' B v k := by
  obtain ⟨vs, ho, hr⟩ := h
  have hg : w.grownBy w' none := ⟨hx.os, hx.tape, hx.output, hx.size, fun i hi _ => hx.block i hi⟩
  exact ⟨vs, ho.kept hg (by cases v.ownBlock <;> simp), hr⟩
theorem owns_uniq {w : World} {B B' k : Nat} {T : TypeId} {v : Value} {vs vs' : List Value} (h : w.ownsRow B T 1 v k vs) (h' : w.ownsRow B' T 1 v k vs') : vs = vs' := by
  rcases h.2 with ⟨rfl, rfl⟩ | ⟨g, cap, cur, rfl, _, hg, _, _, _, ht⟩
  · have h1 := h.1
    have h2 := h'.1
    have e1 : vs = [] := List.eq_nil_of_length_eq_zero (by simpa using h1)
    have e2 : vs' = [] := List.eq_nil_of_length_eq_zero (by simpa using h2)
    rw [e1, e2]
  · rcases h'.2 with ⟨e, _⟩ | ⟨g', cap', cur', e, _, hg', _, _, _, ht'⟩
    · cases e
    · cases e
      rw [hg] at hg'
      simp only [Option.some.injEq, Obj.cells.injEq, and_true] at hg'
      rw [← ht, ← ht', hg']
theorem LocN.snoc {w w' : World} {B B' k : Nat} {v v' u : Value} {vs : List Value} (h : LocN w B v k) (ho : w.ownsRow B' 26 1 v k vs) (ho' : w'.ownsRow B 26 1 v' (k + 1) (vs ++ [u])) (hu : ∀ g, u.ownBlock = some g → B ≤ g) : LocN w' B v' (k + 1) := by
  obtain ⟨vs', h1, h2⟩ := h
  refine ⟨_, ho', fun x hx => ?_⟩
  rcases List.mem_append.1 hx with hx | hx
  · rw [owns_uniq ho h1] at hx; exact h2 x hx
  · rw [List.mem_singleton] at hx; subst hx; exact hu
theorem LocN.at_ {w : World} {B k b off n cap j : Nat} {u : Value} (h : LocN w B (.slice (some ⟨b, off, none⟩) n cap) k) (hj : j < k) (hc : w.cell? ⟨b, off + j, none⟩ = some u) : ∀ g, u.ownBlock = some g → B ≤ g := by
  obtain ⟨vs, ho, hr⟩ := h
  have hl : vs.length = k := by have := ho.1; simpa using this
  rcases ho.2 with ⟨e, _⟩ | ⟨g, cap', cur, e, _⟩
  · cases e
  · have e1 := e
    simp only [Value.slice.injEq, Option.some.injEq, Addr.mk.injEq, and_true] at e1
    obtain ⟨⟨e2, e3⟩, _⟩ := e1
    subst e2 e3
    have h1 := ho.cells (g := b) rfl j vs[j] (List.getElem?_eq_getElem (by omega))
    rw [Addr.add_mid] at h1
    rw [hc] at h1
    have e4 : u = vs[j] := by simpa using h1
    rw [e4]
    exact hr _ (List.getElem_mem _)
end Go.Proofs.Ytdbdnfjgmdkneaa
namespace Go.Proofs.Ytdbdnfjgmdkneaa
set_option maxRecDepth 20000
open Go.RowKit Go.Deep Go.Maps
set_option linter.unusedVariables false
theorem RAt.least {w : World} {t o s : Nat} {L : List Value} {T : TypeId} {D : Nat → Prop} {bs : List Nat} (h : RAt w t o L T D bs s) : ∃ DB : Nat → Prop, RAt w t o L T DB bs s ∧ ∀ g, DB g → D g ∧ ∃ cs, w.heap[g]? = some (.cells cs 5 (0, 0)) := by
  obtain ⟨a, c, h1, h2, h3, h4, h5⟩ := h
  exact ⟨fun g => (Value.slice a bs.length c).ownBlock = some g, ⟨a, c, h1, h2, h3, h4, fun g hg => hg⟩, fun g hg => ⟨h5 g hg, owns_at h4 hg⟩⟩
/-- A store of the reference lies at block t, in blocks of D; DB: the block of its log's bytes; v1, v2: its symbols' and its tombstones' slices; ps, qs: these and their data. -/
structure RSX (w : World) (t : Nat) (D DB : Nat → Prop) (st : Sto) (v1 v2 : Value) (ps qs : List Pr) : Prop where
  log : RAt w t 3 [.int .i64 ((st.m : Nat) : Int), v1, v2] 64 DB (LM.spell st.lg) st.s
  here : D t
  own1 : OwnR w v1 ps
  own2 : OwnR w v2 qs
  recs1 : recs ps = st.l
  recs2 : recs qs = st.t
  in1 : ∀ g, v1.ownBlock = some g → D g
  in2 : ∀ g, v2.ownBlock = some g → D g
  inB : ∀ g, DB g → D g ∧ ∃ cs, w.heap[g]? = some (.cells cs 5 (0, 0))
  apart : ∀ g, v1.ownBlock = some g → v2.ownBlock ≠ some g
  data : Reads w D ps
  dataB : ∀ p ∈ ps, p.1.d = [] ∨ ∀ g, p.2.ownBlock = some g → ¬ DB g
def RSt (w : World) (t : Nat) (D : Nat → Prop) (st : Sto) : Prop := ∃ DB v1 v2 ps qs, RSX w t D DB st v1 v2 ps qs
theorem OwnR.at_ {w : World} {v : Value} {ps : List Pr} (h : OwnR w v ps) : ∀ k, k < ps.length → ∃ g, (∃ cap, v = .slice (some ⟨g, 0, none⟩) ps.length cap) ∧ w.rangeAt g (k * 10) ((ps.getD k zp).1.cells (ps.getD k zp).2) := fun k hk => by
  rcases h.kinds with ⟨rfl, rfl⟩ | ⟨g, cap, rfl⟩
  · simp at hk
  · exact ⟨g, ⟨cap, rfl⟩, h.arr.1.range hk⟩
theorem OwnR.block {w : World} {v : Value} {ps : List Pr} (h : OwnR w v ps) : ∀ g, v.ownBlock = some g → ∃ cs, w.heap[g]? = some (.cells cs 28 (0, 0)) := fun g hg => by
  rcases h.1.2 with ⟨rfl, _⟩ | ⟨g', cap, cur, rfl, _, hh, _⟩
  · cases hg
  · simp only [Value.ownBlock, Option.some.injEq] at hg
    subst hg
    exact ⟨cur, hh⟩
theorem OwnR.same {w w' : World} {v : Value} {ps : List Pr} (h : OwnR w v ps) (hb : ∀ g cs, v.ownBlock = some g → w.heap[g]? = some (.cells cs 28 (0, 0)) → w'.heap[g]? = w.heap[g]?) : OwnR w' v ps := by
  refine ⟨⟨h.1.1, ?_⟩, h.2⟩
  rcases h.1.2 with h4 | ⟨g, cap, cur, rfl, h1, hh, hrest⟩
  · exact .inl h4
  · exact .inr ⟨g, cap, cur, rfl, h1, (hb g cur rfl hh).trans hh, hrest⟩
section
variable {w w' : World} {t : Nat} {D D' DB : Nat → Prop} {st : Sto} {v1 v2 : Value} {ps qs : List Pr}
theorem RSX.lt (h : RSX w t D DB st v1 v2 ps qs) : t < w.heap.size := h.log.lt
theorem RSX.mono (h : RSX w t D DB st v1 v2 ps qs) (hD : ∀ i, D i → D' i) : RSX w t D' DB st v1 v2 ps qs :=
  ⟨h.log, hD _ h.here, h.own1, h.own2, h.recs1, h.recs2, fun g hg => hD g (h.in1 g hg), fun g hg => hD g (h.in2 g hg), fun g hg => ⟨hD g (h.inB g hg).1, (h.inB g hg).2⟩, h.apart, h.data.mono hD, h.dataB⟩
theorem RSt.mono (h : RSt w t D st) (hD : ∀ i, D i → D' i) : RSt w t D' st := by
  obtain ⟨DB, v1, v2, ps, qs, h⟩ := h
  exact ⟨DB, v1, v2, ps, qs, h.mono hD⟩
/-- It stays where none of its blocks is written. -/
theorem RSX.away (h : RSX w t D DB st v1 v2 ps qs) (hs : w.heap.size ≤ w'.heap.size) (hb : ∀ g, D g → g < w.heap.size → w'.heap[g]? = w.heap[g]?) : RSX w' t D DB st v1 v2 ps qs := by
  have hlt : ∀ g cs (T : TypeId) f, w.heap[g]? = some (.cells cs T f) → g < w.heap.size := fun g cs T f hg => (Array.getElem?_eq_some_iff.1 hg).1
  refine ⟨h.log.keep (hb t h.here h.lt) (fun g cs hg hc => hb g (h.inB g hg).1 (hlt g _ _ _ hc)), h.here, h.own1.same (fun g cs hg hc => hb g (h.in1 g hg) (hlt g _ _ _ hc)), h.own2.same (fun g cs hg hc => hb g (h.in2 g hg) (hlt g _ _ _ hc)), h.recs1, h.recs2, h.in1, h.in2, fun g hg => ?_, h.apart, fun p hp' => (h.data p hp').same hs fun g cs f hg hc => hb g hg (hlt g _ _ _ hc), h.dataB⟩
  obtain ⟨h1, cs, h2⟩ := h.inB g hg
  exact ⟨h1, cs, (hb g h1 (hlt g _ _ _ h2)).trans h2⟩
theorem RSt.away (h : RSt w t D st) (hs : w.heap.size ≤ w'.heap.size) (hb : ∀ g, D g → g < w.heap.size → w'.heap[g]? = w.heap[g]?) : RSt w' t D st := by
  obtain ⟨DB, v1, v2, ps, qs, h⟩ := h
  exact ⟨DB, v1, v2, ps, qs, h.away hs hb⟩
theorem RSX.ext (h : RSX w t D DB st v1 v2 ps qs) (hx : w.Extends w') : RSX w' t D DB st v1 v2 ps qs := h.away hx.size fun g _ hg => hx.block g hg
theorem RSt.ext (h : RSt w t D st) (hx : w.Extends w') : RSt w' t D st := by
  obtain ⟨DB, v1, v2, ps, qs, h⟩ := h
  exact ⟨DB, v1, v2, ps, qs, h.ext hx⟩
theorem RSX.cells (h : RSX w t D DB st v1 v2 ps qs) : ∃ a c, w.heap[t]? = some (.cells #[.int .i64 ((st.m : Nat) : Int), v1, v2, .slice a (LM.spell st.lg).length c, .int .i64 ((st.s : Nat) : Int)] 64 (0, 0)) ∧ w.cell? ⟨t, 0, none⟩ = some (.int .i64 ((st.m : Nat) : Int)) ∧ w.cell? ⟨t, 1, none⟩ = some v1 ∧ w.cell? ⟨t, 2, none⟩ = some v2 ∧ w.cell? ⟨t, 3, none⟩ = some (.slice a (LM.spell st.lg).length c) ∧ w.frozen? ⟨t, 1, none⟩ = false ∧ w.frozen? ⟨t, 2, none⟩ = false := by
  obtain ⟨a, c, h1, _⟩ := h.log
  exact ⟨a, c, h1, by rw [cell_of_row _ _ _ _ _ _ h1]; rfl, by rw [cell_of_row _ _ _ _ _ _ h1]; rfl, by rw [cell_of_row _ _ _ _ _ _ h1]; rfl, by rw [cell_of_row _ _ _ _ _ _ h1]; rfl, frozen_of_row _ _ _ _ _ h1, frozen_of_row _ _ _ _ _ h1⟩
end
end Go.Proofs.Ytdbdnfjgmdkneaa
