/- In one text: StoLaw, StoGoneW, StoGoneWalk, OpenI, StoFullW, StoFullWalk. -/
import Derived.Deep.DeepCutAuto
import Derived.OpenShut
import Derived.Deep.Matrix
import Derived.SizedLaws
import Derived.Test.YtdbdnfjgmdkneaaMA2
import Derived.Test.YtdbdnfjgmdkneaaMA11
import Derived.Test.YtdbdnfjgmdkneaaMA12
namespace Go.Proofs.Ytdbdnfjgmdkneaa
set_option maxRecDepth 20000
open Go.RowKit Go.Deep Go.Maps
set_option linter.unusedVariables false
/-- A store of the law's own: it lies in memory that the law has made; c: how many records were put. -/
structure SOk (w0 w : World) (t : Nat) (st : Sto) (c : Nat) : Prop where
  at_ : SAt w t (fun i => w0.heap.size ≤ i ∧ i < w.heap.size) st
  inv : SM.Inv st
  ext : w0.Extends w
  size : LM.size st.lg ≤ 90 * c
  few : st.t.length ≤ c
theorem SOk.later {w0 w w' : World} {t c : Nat} {st : Sto} (h : SOk w0 w t st c) (hx : w.Extends w') : SOk w0 w' t st c :=
  ⟨(h.at_.ext hx).mono fun i hi => ⟨hi.1, Nat.lt_of_lt_of_le hi.2 hx.size⟩, h.inv, Gr.ext_trans h.ext hx, h.size, h.few⟩
theorem Fr.extends {D : Nat → Prop} {w0 w w' : World} (h : w0.Extends w) (k : Fr D w w') (hD : ∀ i, D i → w0.heap.size ≤ i) : w0.Extends w' :=
  Gr.ext_of ((Gr.below_of h).trans (k.below h.size hD))
theorem SOk.left {w0 w w1 w2 : World} {t c c' : Nat} {st st' : Sto} (h : SOk w0 w t st c) (hx : w.Extends w1) (hL : Left w1 t (fun i => w0.heap.size ≤ i ∧ i < w.heap.size) st' w2) (hi : SM.Inv st') (hz : LM.size st'.lg ≤ 90 * c') (hf : st'.t.length ≤ c') : SOk w0 w2 t st' c' := by
  have h1 := hx.size
  have h2 := hL.2.fr.size
  have h0 := h.ext.size
  refine ⟨hL.1.mono fun i hi => ?_, hi, Fr.extends (Gr.ext_trans h.ext hx) hL.2.fr fun i hi => hi.1, hz, hf⟩
  rcases hi with hi | hi
  · exact ⟨hi.1, by omega⟩
  · exact ⟨by omega, hi.2⟩
theorem puts_one (st : Sto) (r : Rc) : SM.puts st [r] = (SM.put1 st r, (SM.keepOf st r).2.2) := by
  unfold SM.puts
  split
  · rename_i h; rw [h]; rfl
  · rfl
theorem recs_lit (w : World) (D : Nat → Prop) (r : Rc) (a : Option Addr) (c : Nat) (hu : U8s w (.slice a r.d.length c) r.d) (hb : r.d = [] ∨ ∀ g, (Value.slice a r.d.length c).ownBlock = some g → ¬ D g ∧ g < w.heap.size) (hD : ∀ i, D i → i < w.heap.size) :
    RecsD (w.alloc (.cells (r.cells (.slice a r.d.length c)).toArray 28)) D (.slice (some ⟨w.heap.size, 0, none⟩) 1 1) [r] := by
  refine .inr ⟨w.heap.size, 0, 1, rfl, by simp, fun hd => by have := hD _ hd; omega, fun k hk => ?_⟩
  obtain rfl : k = 0 := by simp at hk; omega
  exact ⟨a, c, by simpa using box_rec w 28 r (.slice a r.d.length c), hu.ext (ext_alloc _ _), hb.imp id fun hb g hg => ⟨(hb g hg).1, by have := (hb g hg).2; simp; omega⟩⟩
/-- A record, typed in the law, put. -/
theorem put_one {w0 w w1 w2 : World} {t c : Nat} {st : Sto} {r : Rc} {a : Option Addr} {cc : Nat} (h : SOk w0 w t st c) (hc : c ≤ 9000) (hx : w.Extends w1) (hu : U8s w1 (.slice a r.d.length cc) r.d) (hb : r.d = [] ∨ ∀ g, (Value.slice a r.d.length cc).ownBlock = some g → (g < w0.heap.size ∨ w.heap.size ≤ g) ∧ g < w1.heap.size) (h2 : w2 = w1.alloc (.cells (r.cells (.slice a r.d.length cc)).toArray 28)) :
    Calls Try.prog 26 #[.pointer (some ⟨t, 0, none⟩), .slice (some ⟨w1.heap.size, 0, none⟩) 1 1] w2 fun e w' => e = .returned (.int .i64 (((SM.keepOf st r).2.2 : Nat) : Int)) ∧ SOk w0 w' t (SM.put1 st r) (c + 1) := by
  subst h2
  have hx2 := Gr.ext_trans hx (ext_alloc w1 (.cells (r.cells (.slice a r.d.length cc)).toArray 28))
  have hs := hx.size
  have := sput_any t (fun i => w0.heap.size ≤ i ∧ i < w.heap.size) st _ [r] _ (h.at_.ext hx2) (fun i hi => Nat.lt_of_lt_of_le hi.2 hx2.size) h.inv (recs_lit w1 _ r a cc hu (hb.imp id fun hb g hg => ⟨fun hd => by have := (hb g hg).1; omega, (hb g hg).2⟩) (fun i hi => by omega)) (by simp) (by have := h.few; omega) (by have := h.size; omega)
  rw [puts_one] at this
  refine this.mono ?_
  rintro e w' ⟨h1, h2, h3, h4, h5⟩
  exact ⟨h1, h.left hx2 h2 h3 (by have := h.size; simp only [List.length_singleton] at h4; omega) (by have := h.few; simp only [List.length_singleton] at h5; omega)⟩
/-- What symbol answers. -/
def symR (id esi u : Int) : Rc := ⟨0, id, 4, 2, 2, 0, esi, false, u, [(id % 256).toNat, (esi % 256).toNat]⟩
def SymOut16 (w : World) (r : Rc) (e : Ending) (w' : World) : Prop := ∃ a c, e = .returned (r.val (.slice a r.d.length c)) ∧ w.Extends w' ∧ U8s w' (.slice a r.d.length c) r.d ∧ ∀ g, (Value.slice a r.d.length c).ownBlock = some g → w.heap.size ≤ g ∧ g < w'.heap.size
theorem u8s_two (w : World) (b x y : Nat) (hx : x < 256) (hy : y < 256) (h : w.heap[b]? = some (.cells #[.int .u8 (x : Nat), .int .u8 (y : Nat)] 5)) : U8s w (.slice (some ⟨b, 0, none⟩) 2 2) [x, y] := by
  have ho : w.ownsRow b 5 1 (.slice (some ⟨b, 0, none⟩) ([x, y] : List Nat).length 2) ([x, y] : List Nat).length (u8vs [x, y]) := ⟨rfl, .inr ⟨b, 2, #[.int .u8 (x : Nat), .int .u8 (y : Nat)], rfl, Nat.le_refl _, h, Nat.le_refl _, by decide, rfl, rfl⟩⟩
  exact owns_u8s ho (fun z hz => by
    simp only [List.mem_cons, List.not_mem_nil, or_false] at hz
    rcases hz with rfl | rfl
    · exact hx
    · exact hy)
set_option maxHeartbeats 1000000 in
theorem symbol16_any (id esi u : Int) (w : World) :
    Calls Try.prog 46 #[.int .i64 id, .int .i64 esi, .int .i64 u] w (SymOut16 w (symR id esi u)) := by
  obtain ⟨x, hx⟩ : ∃ x, x = (id % 256).toNat := ⟨_, rfl⟩
  obtain ⟨y, hy⟩ : ∃ y, y = (esi % 256).toNat := ⟨_, rfl⟩
  have hw1 : IntKind.u8.wrap id = ((x : Nat) : Int) := by rw [IntKind.wrap_u8, hx]; omega
  have hw2 : IntKind.u8.wrap esi = ((y : Nat) : Int) := by rw [IntKind.wrap_u8, hy]; omega
  have HXY : Hid (x < 256 ∧ y < 256) := by show _ ∧ _; omega
  have HOUT : Hid (∀ w' b, w.Extends w' → w.heap.size ≤ b → b < w'.heap.size → U8s w' (.slice (some ⟨b, 0, none⟩) 2 2) [x, y] → SymOut16 w (symR id esi u) (.returned (.agg #[.int .i64 0, .int .i64 id, .int .i64 4, .int .i64 2, .int .i64 2, .int .i64 0, .int .i64 esi, .bool false, .int .i64 u, .slice (some ⟨b, 0, none⟩) 2 2])) w') := fun w' b h1 h2 h2' h3 => by
    rw [hx, hy] at h3
    refine ⟨some ⟨b, 0, none⟩, 2, rfl, h1, h3, fun g hg => ?_⟩
    have : b = g := by simpa [Value.ownBlock] using hg
    subst this
    exact ⟨h2, h2'⟩
  clear hx hy
  generalize SymOut16 w (symR id esi u) = Q at *
  go_enter Try.func46, Try.ntmps46
  go_upto_region 1 with fail
  generalize hw3 : World.alloc w _ = w1
  have HX1 : Hid (w.Extends w1) := by subst hw3; exact ext_alloc _ _
  have HA1 : Hid (Arr w1 w.heap.size 1 1 (fun _ => (Rc.zero, .slice none 0 0))) := by subst hw3; exact Arr.box w Rc.zero _
  obtain ⟨z, hz⟩ : ∃ z, z = w.heap.size := ⟨_, rfl⟩
  rw [← hz] at HA1 ⊢
  have HZ := Lib.hid hz
  clear hw3 hz
  have HA2 : Hid (∀ T cs, Arr (w1.alloc (.cells cs T)) z 1 1 (fun _ => (Rc.zero, .slice none 0 0))) := fun T cs => HA1.out.ext (ext_alloc _ _)
  have HU2 : Hid (∀ w3, (w1.alloc (.cells #[.int .u8 (x : Nat), .int .u8 (y : Nat)] 5)).grownBy w3 (some z) → Q (.returned (.agg #[.int .i64 0, .int .i64 id, .int .i64 4, .int .i64 2, .int .i64 2, .int .i64 0, .int .i64 esi, .bool false, .int .i64 u, .slice (some ⟨w1.heap.size, 0, none⟩) 2 2])) w3) := fun w3 hg => by
    have h1 := HX1.out.size
    have h2 := HA1.out.lt
    have hu : U8s (w1.alloc (.cells #[.int .u8 (x : Nat), .int .u8 (y : Nat)] 5)) (.slice (some ⟨w1.heap.size, 0, none⟩) 2 2) [x, y] := u8s_two _ _ x y HXY.out.1 HXY.out.2 (heap_alloc_new _ _)
    refine HOUT.out w3 _ ?_ h1 ?_ ?_
    · exact (Gr.ext_trans HX1.out (ext_alloc _ _)).grown hg (fun j hj => by have := Option.some.inj hj; have := HZ.out; omega)
    · have := hg.size; simp at this; omega
    · refine hu.same hg.size (.inr fun g hg' => ?_)
      have e : w1.heap.size = g := by simpa [Value.ownBlock] using hg'
      exact hg.block g (by simp; omega) (by simp; omega)
  clear HA1 HX1 HOUT
  have HSLC : Hid (Slc ((⟨0, id, 4, 2, 2, 0, esi, false, u, [x, y]⟩, .slice (some ⟨w1.heap.size, 0, none⟩) 2 2) : Pr)) := ⟨_, _, rfl⟩
  go_wp2_with (refine wpList_store_rec rfl 28 recsize _ _ rfl z 0 0 1 1 _ (⟨0, id, 4, 2, 2, 0, esi, false, u, [x, y]⟩, .slice (some ⟨w1.heap.size, 0, none⟩) 2 2) rfl rfl rfl (HA2.out _ _) (by omega) HSLC.out ?_)
  intro w3 ha3 hg3
  have HP := Lib.hid (HU2.out w3 hg3)
  obtain ⟨d0, d1, d2, d3, d4, d5, d6, d7, d8, d9⟩ := RCell.ten (ha3.one (p := (⟨0, id, 4, 2, 2, 0, esi, false, u, [x, y]⟩, .slice (some ⟨w1.heap.size, 0, none⟩) 2 2)) rfl)
  simp only [Nat.zero_add] at d0 d1 d2 d3 d4 d5 d6 d7 d8 d9
  clear ha3 hg3 HU2 HA2
  repeat (first | go_values | go_skip | go_guarded | go_step)
  refine bodyPost_ret (v := .agg #[.int .i64 0, .int .i64 id, .int .i64 4, .int .i64 2, .int .i64 2, .int .i64 0, .int .i64 esi, .bool false, .int .i64 u, .slice (some ⟨w1.heap.size, 0, none⟩) 2 2]) (by simp [results, Try.results46, go_sem, d0, d1, d2, d3, d4, d5, d6, d7, d8, d9]; try rfl) rfl ?_
  exact HP.out
/-- The document's example. -/
def stone16 : Rc := ⟨0, 1, 0, 0, 0, 0, 0, true, 0, []⟩
theorem stone16_right : KM.Right stone16 := by unfold KM.Right CM.Right; decide
set_option maxHeartbeats 1000000 in
theorem alive16_any (w : World) : Calls Try.prog 22 #[] w fun e w' => e = .returned (.bool true) ∧ w.Extends w' := by
  have hk : SM.keepOf (SM.new 3) stone16 = ({ SM.new 3 with t := [stone16] }, some stone16, 0) := by
    unfold SM.keepOf
    rw [if_pos stone16_right]; rfl
  have hp : SM.put1 (SM.new 3) stone16 = { SM.new 3 with t := [stone16], lg := [KM.bytes stone16] } := by rw [SM.put1_eq, hk]; rfl
  have HKE : Hid ((SM.keepOf (SM.new 3) stone16).2.2 = 0) := by show _ = _; rw [hk]
  have HHAS : Hid (decide (SM.Has (SM.put1 (SM.new 3) stone16).t stone16) = true) := by show _ = _; rw [hp]; decide
  have HSZ : Hid (∃ z : Nat, LM.size (SM.put1 (SM.new 3) stone16).lg = z + 1) := ⟨14, by rw [hp]; rfl⟩
  have HLN : Hid ((SM.new 3).l.length = 0) := rfl
  clear hk hp
  go_enter Try.func22, Try.ntmps22
  go_wp2_with fail
  refine (new16_any 3 w (by omega)).mono ?_
  rintro e w1 ⟨rfl, hx1, hs1, hsz1⟩
  have HS1 : Hid (SOk w w1 w.heap.size (SM.new 3) 0) := ⟨hs1.mono fun i hi => by omega, SM.inv_new 3, hx1, Nat.zero_le _, Nat.zero_le _⟩
  have hcn := count_any w.heap.size _ _ w1 HS1.out.at_
  rw [HLN.out] at hcn
  have HCN := Lib.hid hcn
  clear hx1 hs1 hsz1 hcn
  generalize w.heap.size = t at *
  go_wp2_with fail
  refine HCN.out.mono ?_
  rintro e w2 ⟨rfl, rfl⟩
  have HPT : Hid (∀ w2, w2 = w1.alloc (.cells (stone16.cells (.slice none 0 0)).toArray 28) → Calls Try.prog 26 #[.pointer (some ⟨t, 0, none⟩), .slice (some ⟨w1.heap.size, 0, none⟩) 1 1] w2 fun e w' => e = .returned (.int .i64 0) ∧ SOk w w' t (SM.put1 (SM.new 3) stone16) 1) := fun w2 e => by
    have := put_one (r := stone16) (a := none) (cc := 0) HS1.out (by omega) (Gr.ext_refl _) (nil_u8s _ _ _) (.inl rfl) e
    rw [HKE.out] at this
    exact this
  clear HCN HS1
  go_wp2_with fail
  refine (HPT.out _ rfl).mono ?_
  rintro e w3 ⟨rfl, hs3⟩
  have HS3 := Lib.hid hs3
  have HG := Lib.hid (gone_any t _ _ stone16 w3 hs3.at_ ⟨by decide, by decide⟩)
  rw [HHAS.out] at HG
  obtain ⟨z, hz⟩ := HSZ.out
  have HZ := Lib.hid hz
  clear hs3 HPT hz
  go_wp2_with fail
  refine (num16_any 0 w3).mono ?_
  rintro e w4 ⟨rfl, rfl⟩
  go_wp2_with fail
  refine HG.out.mono ?_
  rintro e w5 ⟨rfl, hx5⟩
  have HS5 := Lib.hid (HS3.out.later hx5)
  have HLE := Lib.hid (slen_any t _ _ w5 HS5.out.at_)
  rw [HZ.out] at HLE
  clear hx5 HG
  go_wp2_with fail
  refine HLE.out.mono ?_
  rintro e w6 ⟨rfl, rfl⟩
  have hz0 : (0 : Int) < ((z + 1 : Nat) : Int) := by omega
  go_wp2
  go_ret
  exact ⟨rfl, HS5.out.ext⟩
end Go.Proofs.Ytdbdnfjgmdkneaa
namespace Go.Proofs.Ytdbdnfjgmdkneaa
set_option maxRecDepth 20000
open Go.RowKit Go.Deep Go.Maps
set_option linter.unusedVariables false
namespace SM
theorem sym_right {id esi u : Int} (h1 : 1 ≤ id ∧ id ≤ 100) (h2 : 0 ≤ esi ∧ esi ≤ 16777215) (h3 : 0 ≤ u ∧ u ≤ 2147483647) : KM.Right (symR id esi u) := by
  unfold symR KM.Right CM.Right
  refine ⟨by simp, by simp; omega, by simpa using h3, fun h => by simp at h, fun _ => ⟨⟨by simp, by simp, ?_⟩, by simpa using h2, by simp⟩⟩
  simp [CM.bl, CM.sy]
theorem pos_end {r : Rc} : ∀ {l : List Rc}, (∀ x ∈ l, Lt x r) → pos r l = l.length
  | [], _ => rfl
  | x :: l, h => by
    unfold pos
    rw [if_pos (h x (List.mem_cons_self ..)), pos_end (fun y hy => h y (List.mem_cons_of_mem _ hy)), List.length_cons]
theorem ins_end {r : Rc} {l : List Rc} (h : ∀ x ∈ l, Lt x r) : ins r l = l ++ [r] := by
  unfold ins
  rw [pos_end h, List.take_length, List.drop_length]
/-- A new symbol, where there is room. -/
theorem keep_new {st : Sto} {r : Rc} (hr : KM.Right r) (hg : r.g = false) (hh : ¬ Has st.t r) (hT : ¬ (pos r st.l < st.l.length ∧ ¬ Lt r (st.l.getD (pos r st.l) Rc.zero))) (hm : st.l.length < st.m) : keepOf st r = ({ st with l := ins r st.l }, some r, 0) := by
  unfold keepOf
  rw [if_pos hr, if_neg (by rw [hg]; decide)]
  unfold addOf
  rw [if_neg hh, if_neg hT, if_pos hm]
theorem put_new {st : Sto} {r : Rc} (hr : KM.Right r) (hg : r.g = false) (hh : ¬ Has st.t r) (hT : ¬ (pos r st.l < st.l.length ∧ ¬ Lt r (st.l.getD (pos r st.l) Rc.zero))) (hm : st.l.length < st.m) : (put1 st r).l = ins r st.l ∧ (put1 st r).t = st.t ∧ (put1 st r).m = st.m ∧ (keepOf st r).2.2 = 0 := by
  rw [put1_eq, keep_new hr hg hh hT hm]
  exact ⟨rfl, rfl, rfl, rfl⟩
theorem put_last {st : Sto} {r : Rc} (hr : KM.Right r) (hg : r.g = false) (hh : ¬ Has st.t r) (hlt : ∀ x ∈ st.l, Lt x r) (hm : st.l.length < st.m) : (put1 st r).l = st.l ++ [r] ∧ (put1 st r).t = st.t ∧ (put1 st r).m = st.m ∧ (keepOf st r).2.2 = 0 := by
  have hT : ¬ (pos r st.l < st.l.length ∧ ¬ Lt r (st.l.getD (pos r st.l) Rc.zero)) := by rw [pos_end hlt]; omega
  have := put_new hr hg hh hT hm
  rw [ins_end hlt] at this
  exact this
theorem has_nil (r : Rc) : ¬ Has [] r := by unfold Has; simp
/-- The first n symbols of an object. -/
def syms (id : Int) (n : Nat) : List Rc := (List.range n).map fun i : Nat => symR id (i : Int) 2000
theorem syms_succ (id : Int) (n : Nat) : syms id (n + 1) = syms id n ++ [symR id (n : Int) 2000] := by unfold syms; rw [List.range_succ, List.map_append]; rfl
theorem syms_length (id : Int) (n : Nat) : (syms id n).length = n := by simp [syms]
theorem syms_mem {id : Int} {n : Nat} {x : Rc} (h : x ∈ syms id n) : ∃ i : Nat, i < n ∧ x = symR id (i : Int) 2000 := by
  obtain ⟨i, hi, rfl⟩ := List.mem_map.1 h
  exact ⟨i, List.mem_range.1 hi, rfl⟩
theorem expire_inv {st : Sto} (h : Inv st) (now : Int) : Inv (expire st now) :=
  ⟨h.sorted.filter _, fun r hr => h.sym r (List.mem_filter.1 hr).1, fun r hr => h.tomb r (List.mem_filter.1 hr).1, List.Pairwise.sublist List.filter_sublist h.apart, fun r hr hh => by
    obtain ⟨x, hx, ho⟩ := (has_iff _ _).1 hh
    exact h.alive r (List.mem_filter.1 hr).1 ((has_iff _ _).2 ⟨x, (List.mem_filter.1 hx).1, ho⟩), h.most, Nat.le_trans (List.length_filter_le _ _) h.room, h.fine, h.sure⟩
end SM
theorem SOk.expire {w0 w : World} {t c : Nat} {st : Sto} (h : SOk w0 w t st c) (hc : c ≤ 9000) (now : Int) :
    Calls Try.prog 30 #[.pointer (some ⟨t, 0, none⟩), .int .i64 now] w fun e w' => e = .returned (.int .i64 ((st.l.length : Nat) + (st.t.length : Nat) - ((SM.expire st now).l.length : Nat) - ((SM.expire st now).t.length : Nat))) ∧ SOk w0 w' t (SM.expire st now) c := by
  refine (expire_any t _ st now w h.at_ (Nat.le_trans h.inv.room h.inv.most) (by have := h.few; omega)).mono ?_
  rintro e w' ⟨h1, h2⟩
  exact ⟨h1, h.left (Gr.ext_refl _) h2 (SM.expire_inv h.inv now) h.size (Nat.le_trans (List.length_filter_le _ _) h.few)⟩
/-- A symbol that the law types, put. -/
theorem put_sym {w0 w w1 w2 : World} {t c : Nat} {st : Sto} {r : Rc} {v : Value} (h : SOk w0 w t st c) (hc : c ≤ 9000) (hs : SymOut16 w r (.returned v) w1) (h2 : w2 = w1.alloc (.cells v.cells 28)) :
    Calls Try.prog 26 #[.pointer (some ⟨t, 0, none⟩), .slice (some ⟨w1.heap.size, 0, none⟩) 1 1] w2 fun e w' => e = .returned (.int .i64 (((SM.keepOf st r).2.2 : Nat) : Int)) ∧ SOk w0 w' t (SM.put1 st r) (c + 1) := by
  obtain ⟨a, cc, e, hx, hu, hb⟩ := hs
  cases e
  exact put_one h hc hx hu (.inr fun g hg => ⟨.inr (hb g hg).1, (hb g hg).2⟩) h2
/-- A store with n symbols of object 1, m of object 2, no tombstone. -/
def G16 (st : Sto) (n m : Nat) : Prop := st.m = 100 ∧ st.l = SM.syms 1 n ++ SM.syms 2 m ∧ st.t = []
theorem g16_one {st : Sto} {k : Nat} (h : G16 st k 0) (hk : k < 20) : G16 (SM.put1 st (symR 1 (k : Int) 2000)) (k + 1) 0 := by
  obtain ⟨h1, h2, h3⟩ := h
  have h2' : st.l = SM.syms 1 k := by rw [h2]; simp [SM.syms]
  obtain ⟨e1, e2, e3, _⟩ := SM.put_last (st := st) (r := symR 1 (k : Int) 2000) (SM.sym_right (by omega) (by omega) (by omega)) rfl (by rw [h3]; exact SM.has_nil _) (fun x hx => by
    rw [h2'] at hx
    obtain ⟨i, hi, rfl⟩ := SM.syms_mem hx
    unfold SM.Lt symR; first | (simp; done) | (simp; omega)) (by rw [h1, h2', SM.syms_length]; omega)
  refine ⟨e3.trans h1, ?_, e2.trans h3⟩
  rw [e1, h2', SM.syms_succ]
  simp [SM.syms]
theorem g16_two {st : Sto} {n k : Nat} (h : G16 st n k) (hn : n ≤ 20) (hk : k < 20) : G16 (SM.put1 st (symR 2 (k : Int) 2000)) n (k + 1) := by
  obtain ⟨h1, h2, h3⟩ := h
  obtain ⟨e1, e2, e3, _⟩ := SM.put_last (st := st) (r := symR 2 (k : Int) 2000) (SM.sym_right (by omega) (by omega) (by omega)) rfl (by rw [h3]; exact SM.has_nil _) (fun x hx => by
    rw [h2] at hx
    rcases List.mem_append.1 hx with hx | hx
    · obtain ⟨i, hi, rfl⟩ := SM.syms_mem hx
      unfold SM.Lt symR; first | (simp; done) | (simp; omega)
    · obtain ⟨i, hi, rfl⟩ := SM.syms_mem hx
      unfold SM.Lt symR; first | (simp; done) | (simp; omega)) (by rw [h1, h2, List.length_append, SM.syms_length, SM.syms_length]; omega)
  refine ⟨e3.trans h1, ?_, e2.trans h3⟩
  rw [e1, h2, SM.syms_succ, List.append_assoc]
/-- The tombstone of object 1. -/
def tomb1 (u : Int) : Rc := ⟨0, 1, 0, 0, 0, 0, 0, true, u, []⟩
theorem tomb1_right {u : Int} (h : 0 ≤ u ∧ u ≤ 1000) : KM.Right (tomb1 u) := by
  unfold tomb1 KM.Right
  refine ⟨by simp, by simp, by simp; omega, fun _ => by simp, fun h => by simp at h⟩
/-- Behind it: m symbols of object 2, and the tombstone. -/
def G16T (st : Sto) (m : Nat) (u : Int) : Prop := st.m = 100 ∧ st.l = SM.syms 2 m ∧ st.t = [tomb1 u]
theorem g16_tomb {st : Sto} {n m : Nat} {u : Int} (h : G16 st n m) (hu : 0 ≤ u ∧ u ≤ 1000) : G16T (SM.put1 st (tomb1 u)) m u := by
  obtain ⟨h1, h2, h3⟩ := h
  have hk : SM.keepOf st (tomb1 u) = ({ st with l := st.l.filter (fun x => ¬ SM.Of x (tomb1 u)), t := st.t ++ [tomb1 u] }, some (tomb1 u), 0) := by
    unfold SM.keepOf
    rw [if_pos (tomb1_right hu), if_pos (show (tomb1 u).g = true from rfl)]
    unfold SM.buryOf
    rw [if_neg (by rw [h3]; exact SM.has_nil _)]
  rw [SM.put1_eq, hk]
  refine ⟨h1, ?_, by show st.t ++ _ = _; rw [h3]; rfl⟩
  show st.l.filter _ = _
  rw [h2, List.filter_append]
  have e1 : (SM.syms 1 n).filter (fun x => decide (¬ SM.Of x (tomb1 u))) = [] := by
    rw [List.filter_eq_nil_iff]
    intro x hx
    obtain ⟨i, _, rfl⟩ := SM.syms_mem hx
    simp [SM.Of, symR, tomb1]
  have e2 : (SM.syms 2 m).filter (fun x => decide (¬ SM.Of x (tomb1 u))) = SM.syms 2 m := by
    rw [List.filter_eq_self]
    intro x hx
    obtain ⟨i, _, rfl⟩ := SM.syms_mem hx
    simp [SM.Of, symR, tomb1]
  rw [e1, e2, List.nil_append]
theorem g16_gone {st : Sto} {m : Nat} {u : Int} (h : G16T st m u) : SM.put1 st (symR 1 50 2000) = st ∧ (SM.keepOf st (symR 1 50 2000)).2.2 = 0 := by
  obtain ⟨h1, h2, h3⟩ := h
  have hk : SM.keepOf st (symR 1 50 2000) = (st, none, 0) := by
    unfold SM.keepOf
    rw [if_pos (SM.sym_right (by omega) (by omega) (by omega)), if_neg (by decide)]
    unfold SM.addOf
    rw [if_pos (by rw [h3]; unfold SM.Has SM.tat; rw [if_pos (by simp [SM.Of, symR, tomb1])]; simp)]
  rw [SM.put1_eq, hk]
  exact ⟨rfl, rfl⟩
theorem g16_exp {st : Sto} {m : Nat} {u : Int} (h : G16T st m u) (hu : u ≤ 1000) : (SM.expire st (u + 1)).m = 100 ∧ (SM.expire st (u + 1)).l = SM.syms 2 m ∧ (SM.expire st (u + 1)).t = [] ∧ ((st.l.length : Nat) + (st.t.length : Nat) - ((SM.expire st (u + 1)).l.length : Nat) - ((SM.expire st (u + 1)).t.length : Nat) : Int) = 1 := by
  obtain ⟨h1, h2, h3⟩ := h
  have el : (SM.expire st (u + 1)).l = SM.syms 2 m := by
    show st.l.filter _ = _
    rw [h2, List.filter_eq_self]
    intro x hx
    obtain ⟨i, _, rfl⟩ := SM.syms_mem hx
    show (!decide ((2000 : Int) < u + 1)) = true
    rw [decide_eq_false (by omega)]; rfl
  have et : (SM.expire st (u + 1)).t = [] := by
    show st.t.filter _ = _
    rw [h3]
    simp [isOld, tomb1]; omega
  refine ⟨h1, el, et, ?_⟩
  rw [el, et, h2, h3]
  simp; omega
theorem g16_last {st : Sto} {m : Nat} (hm : m ≤ 20) (h1 : st.m = 100) (h2 : st.l = SM.syms 2 m) (h3 : st.t = []) : (SM.put1 st (symR 1 50 2000)).l.length = m + 1 ∧ (SM.keepOf st (symR 1 50 2000)).2.2 = 0 := by
  have hlt : ∀ k, k < (SM.syms 2 m).length → SM.Lt (symR 1 50 2000) ((SM.syms 2 m).getD k Rc.zero) := fun k hk => by
    have hmem : (SM.syms 2 m).getD k Rc.zero ∈ SM.syms 2 m := by rw [List.getD_eq_getElem?_getD, List.getElem?_eq_getElem hk]; exact List.getElem_mem hk
    obtain ⟨i, _, e⟩ := SM.syms_mem hmem
    rw [e]
    simp [SM.Lt, symR]
  obtain ⟨e1, _, _, e4⟩ := SM.put_new (st := st) (r := symR 1 50 2000) (SM.sym_right (by omega) (by omega) (by omega)) rfl (by rw [h3]; exact SM.has_nil _) (fun ⟨q1, q2⟩ => by rw [h2] at q1 q2; exact q2 (hlt _ q1)) (by rw [h1, h2, SM.syms_length]; omega)
  exact ⟨by rw [e1, SM.ins_length, h2, SM.syms_length], e4⟩
end Go.Proofs.Ytdbdnfjgmdkneaa
namespace Go.Proofs.Ytdbdnfjgmdkneaa
set_option maxRecDepth 20000
open Go.RowKit Go.Deep Go.Maps
set_option linter.unusedVariables false
set_option maxHeartbeats 4000000 in
theorem StoreGone_walk (n m u : Int) (w : World) (hn : (Lit.int .i64 n).wf = true) (hm : (Lit.int .i64 m).wf = true) (hu : (Lit.int .i64 u).wf = true) :
    Calls Try.prog 8 #[.int .i64 n, .int .i64 m, .int .i64 u] w fun e w' => e = .returned (.bool true) ∧ Below w.heap.size w w' := by
  have hbn := bounds_i64 hn
  have hbm := bounds_i64 hm
  have hbu := bounds_i64 hu
  clear hn hm hu
  by_cases hgood : (0 ≤ n ∧ n ≤ 20) ∧ (0 ≤ m ∧ m ≤ 20) ∧ (0 ≤ u ∧ u ≤ 1000)
  rotate_left
  · have hbad : n < 0 ∨ (¬ n < 0 ∧ 20 < n) ∨ (¬ n < 0 ∧ ¬ 20 < n ∧ m < 0) ∨ (¬ n < 0 ∧ ¬ 20 < n ∧ ¬ m < 0 ∧ 20 < m) ∨ (¬ n < 0 ∧ ¬ 20 < n ∧ ¬ m < 0 ∧ ¬ 20 < m ∧ u < 0) ∨ (¬ n < 0 ∧ ¬ 20 < n ∧ ¬ m < 0 ∧ ¬ 20 < m ∧ ¬ u < 0 ∧ 1000 < u) := by omega
    have HB := Lib.hid hbad
    clear hbad hgood hbn hbm hbu
    go_enter Try.func8, Try.ntmps8
    go_wp2_with fail
    refine (alive16_any w).mono ?_
    rintro e w1 ⟨rfl, hx1⟩
    have HX1 := Lib.hid hx1
    clear hx1
    go_upto_region 2 with fail
    go_cut [43] (fun s43 wx => s43 = .bool true ∧ w1 = wx)
    case first =>
      rcases HB.out with h1 | ⟨h1, h2⟩ | ⟨h1, h2, h3⟩ | ⟨h1, h2, h3, h4⟩ | ⟨h1, h2, h3, h4, h5⟩ | ⟨h1, h2, h3, h4, h5, h6⟩
      all_goals
        go_wp2_with fail
        go_meet
        refine ⟨?_, rfl⟩
        first | rfl | (simp; omega) | (simp [*]; done)
    obtain ⟨rfl, rfl⟩ := hcut
    go_wp2
    go_ret
    exact ⟨rfl, Gr.below_of HX1.out⟩
  · obtain ⟨⟨hn0, hn1⟩, ⟨hm0, hm1⟩, hu0, hu1⟩ := hgood
    obtain ⟨n, rfl⟩ := Int.eq_ofNat_of_zero_le hn0
    obtain ⟨m, rfl⟩ := Int.eq_ofNat_of_zero_le hm0
    have g1 : ¬ ((n : Nat) : Int) < 0 := by omega
    have g2 : ¬ 20 < ((n : Nat) : Int) := by omega
    have g3 : ¬ ((m : Nat) : Int) < 0 := by omega
    have g4 : ¬ 20 < ((m : Nat) : Int) := by omega
    have g5 : ¬ u < 0 := by omega
    have g6 : ¬ 1000 < u := by omega
    have hn2 : n ≤ 20 := by omega
    have hm2 : m ≤ 20 := by omega
    have HU : Hid (0 ≤ u ∧ u ≤ 1000) := ⟨hu0, hu1⟩
    clear hbn hbm hbu hn0 hn1 hm0 hm1
    go_enter Try.func8, Try.ntmps8
    go_wp2_with fail
    refine (alive16_any w).mono ?_
    rintro e w1 ⟨rfl, hx1⟩
    have HX1 := Lib.hid hx1
    clear hx1
    go_wp2_with fail
    refine (new16_any 100 w1 (by omega)).mono ?_
    rintro e w2 ⟨rfl, hx2, hs2, hsz2⟩
    have HS2 : Hid (SOk w w2 w1.heap.size (SM.new 100) 0) := ⟨hs2.mono fun i hi => by have := HX1.out.size; omega, SM.inv_new 100, Gr.ext_trans HX1.out hx2, Nat.zero_le _, Nat.zero_le _⟩
    have HG2 : Hid (G16 (SM.new 100) 0 0) := ⟨rfl, rfl, rfl⟩
    clear hx2 hs2 hsz2 g1 g2 g3 g4 g5 g6
    generalize w1.heap.size = t at *
    go_wp2_with fail
    go_loopw [9] (fun s9 wr => ∃ (k : Nat) (st : Sto), k ≤ n ∧ s9 = .int .i64 k ∧ Hid (SOk w wr t st k) ∧ Hid (G16 st k 0)) (fun s9 _ => n - (intOf s9).toNat)
    case atStart => exact ⟨0, _, by omega, by rfl, HS2, HG2⟩
    case round =>
      obtain ⟨k, st, hk, rfl, HS, HG⟩ := hrel
      by_cases h1 : k < n
      · go_wp2_with fail
        refine (symbol16_any 1 k 2000 wr).mono ?_
        rintro e w3 hsy
        obtain ⟨a, cc, rfl, hrest⟩ := id hsy
        have HSY : Hid (SymOut16 wr (symR 1 (k : Int) 2000) (.returned ((symR 1 (k : Int) 2000).val (.slice a (symR 1 (k : Int) 2000).d.length cc))) w3) := ⟨a, cc, rfl, hrest⟩
        have HPT := Lib.hid (fun w4 => put_sym (w2 := w4) HS.out (by omega) HSY.out)
        have HGN := Lib.hid (g16_one HG.out (by omega))
        clear hsy hrest HSY HG HS
        simp only [symR, Rc.val] at HPT ⊢
        go_wp2_with fail
        refine (HPT.out _ rfl).mono ?_
        rintro e w5 ⟨rfl, hs5⟩
        have HS5 := Lib.hid hs5
        clear hs5 HPT
        go_wp2
        go_roundw
        case rel => exact ⟨k + 1, _, by omega, by go_num, HS5, HGN⟩
        case measure => simp [intOf]; omega
      · obtain rfl : k = n := by omega
        go_wp2_with fail
        go_loopw [10] (fun s10 wr => ∃ (q : Nat) (st : Sto), q ≤ m ∧ s10 = .int .i64 q ∧ Hid (SOk w wr t st (k + q)) ∧ Hid (G16 st k q)) (fun s10 _ => m - (intOf s10).toNat)
        case atStart => exact ⟨0, _, by omega, by rfl, HS, HG⟩
        case round =>
          clear HS HG
          obtain ⟨q, st, hq, rfl, HS, HG⟩ := hrel
          by_cases h2 : q < m
          · go_wp2_with fail
            refine (symbol16_any 2 q 2000 wr).mono ?_
            rintro e w3 hsy
            obtain ⟨a, cc, rfl, hrest⟩ := id hsy
            have HSY : Hid (SymOut16 wr (symR 2 (q : Int) 2000) (.returned ((symR 2 (q : Int) 2000).val (.slice a (symR 2 (q : Int) 2000).d.length cc))) w3) := ⟨a, cc, rfl, hrest⟩
            have HPT := Lib.hid (fun w4 => put_sym (w2 := w4) HS.out (by omega) HSY.out)
            have HGN := Lib.hid (g16_two HG.out hn2 (by omega))
            clear hsy hrest HSY HG HS
            simp only [symR, Rc.val] at HPT ⊢
            go_wp2_with fail
            refine (HPT.out _ rfl).mono ?_
            rintro e w5 ⟨rfl, hs5⟩
            have HS5 := Lib.hid hs5
            clear hs5 HPT
            go_wp2
            go_roundw
            case rel => exact ⟨q + 1, _, by omega, by go_num, HS5, HGN⟩
            case measure => simp [intOf]; omega
          · obtain rfl : q = m := by omega
            have HPT0 := Lib.hid (fun w4 => put_one (w2 := w4) (r := tomb1 u) (a := none) (cc := 0) HS.out (by omega) (Gr.ext_refl _) (nil_u8s _ _ _) (.inl rfl))
            have HT := Lib.hid (g16_tomb HG.out HU.out)
            clear HS HG
            unfold tomb1 at HPT0
            simp only [Rc.cells] at HPT0
            go_wp2_with fail
            refine (HPT0.out _ rfl).mono ?_
            rintro e w5 ⟨rfl, hs5⟩
            have HS5 := Lib.hid hs5
            clear hs5 HPT0
            have hT : G16T (SM.put1 st ⟨0, 1, 0, 0, 0, 0, 0, true, u, []⟩) q u := HT.out
            have HT5 := Lib.hid hT
            clear hT HT
            generalize SM.put1 st ⟨0, 1, 0, 0, 0, 0, 0, true, u, []⟩ = st1 at *
            generalize (SM.keepOf st ⟨0, 1, 0, 0, 0, 0, 0, true, u, []⟩).2.2 = er1 at *
            have hcn := count_any t _ st1 w5 HS5.out.at_
            rw [HT5.out.2.1, SM.syms_length] at hcn
            have HCN := Lib.hid hcn
            clear hcn
            go_wp2_with fail
            refine HCN.out.mono ?_
            rintro e w6 ⟨rfl, rfl⟩
            go_wp2_with fail
            refine (symbol16_any 1 50 2000 w5).mono ?_
            rintro e w7 hsy
            obtain ⟨a, cc, rfl, hrest⟩ := id hsy
            have HSY : Hid (SymOut16 w5 (symR 1 50 2000) (.returned ((symR 1 50 2000).val (.slice a (symR 1 50 2000).d.length cc))) w7) := ⟨a, cc, rfl, hrest⟩
            obtain ⟨hge1, hge2⟩ := g16_gone HT5.out
            have HPT : Hid (∀ w8, w8 = w7.alloc (.cells ((symR 1 50 2000).val (.slice a (symR 1 50 2000).d.length cc)).cells 28) → Calls Try.prog 26 #[.pointer (some ⟨t, 0, none⟩), .slice (some ⟨w7.heap.size, 0, none⟩) 1 1] w8 fun e w' => e = .returned (.int .i64 0) ∧ SOk w w' t st1 (k + q + 1 + 1)) := fun w8 e8 => by
              have := put_sym HS5.out (by omega) HSY.out e8
              rw [hge1, hge2] at this
              exact this
            clear hsy hrest HSY HS5 hge1 hge2 HCN
            simp only [symR, Rc.val] at HPT ⊢
            go_wp2_with fail
            refine (HPT.out _ rfl).mono ?_
            rintro e w8 ⟨rfl, hs8⟩
            have HS8 := Lib.hid hs8
            have hcn := count_any t _ st1 w8 hs8.at_
            rw [HT5.out.2.1, SM.syms_length] at hcn
            have HCN := Lib.hid hcn
            clear hcn hs8 HPT
            go_wp2_with fail
            refine HCN.out.mono ?_
            rintro e w9 ⟨rfl, rfl⟩
            obtain ⟨q1, q2, q3, q4⟩ := g16_exp HT5.out HU.out.2
            have hwu : IntKind.i64.wrap (u + 1) = u + 1 := by rw [IntKind.wrap_i64]; have := HU.out; omega
            have hex := HS8.out.expire (by omega) (u + 1)
            rw [q4] at hex
            have HEX := Lib.hid hex
            have HQ := Lib.hid (And.intro q1 (And.intro q2 q3))
            clear q1 q2 q3 q4 hex HCN HS8 HT5
            generalize SM.expire st1 (u + 1) = st2 at *
            go_wp2_with fail
            refine HEX.out.mono ?_
            rintro e w10 ⟨rfl, hs10⟩
            have HS10 := Lib.hid hs10
            have hgo := gone_any t _ st2 (symR 1 50 2000) w10 hs10.at_ ⟨by decide, by decide⟩
            rw [HQ.out.2.2, decide_eq_false (SM.has_nil _)] at hgo
            have HGO := Lib.hid hgo
            clear hgo hs10 HEX hwu
            simp only [symR] at HGO
            go_wp2_with fail
            refine HGO.out.mono ?_
            rintro e w11 ⟨rfl, hx11⟩
            have HS11 := Lib.hid (HS10.out.later hx11)
            clear hx11 HS10 HGO
            go_wp2_with fail
            refine (symbol16_any 1 50 2000 w11).mono ?_
            rintro e w12 hsy
            obtain ⟨a2, cc2, rfl, hrest⟩ := id hsy
            have HSY : Hid (SymOut16 w11 (symR 1 50 2000) (.returned ((symR 1 50 2000).val (.slice a2 (symR 1 50 2000).d.length cc2))) w12) := ⟨a2, cc2, rfl, hrest⟩
            obtain ⟨hl1, hl2⟩ := g16_last hm2 HQ.out.1 HQ.out.2.1 HQ.out.2.2
            have HPT : Hid (∀ w13, w13 = w12.alloc (.cells ((symR 1 50 2000).val (.slice a2 (symR 1 50 2000).d.length cc2)).cells 28) → Calls Try.prog 26 #[.pointer (some ⟨t, 0, none⟩), .slice (some ⟨w12.heap.size, 0, none⟩) 1 1] w13 fun e w' => e = .returned (.int .i64 0) ∧ SOk w w' t (SM.put1 st2 (symR 1 50 2000)) (k + q + 1 + 1 + 1)) := fun w13 e13 => by
              have := put_sym HS11.out (by omega) HSY.out e13
              rw [hl2] at this
              exact this
            have HL1 := Lib.hid hl1
            clear hsy hrest HSY HS11 hl1 hl2 HQ
            simp only [symR, Rc.val] at HPT HL1 ⊢
            generalize SM.put1 st2 _ = st3 at *
            go_wp2_with fail
            refine (HPT.out _ rfl).mono ?_
            rintro e w13 ⟨rfl, hs13⟩
            have HS13 := Lib.hid hs13
            have hcn := count_any t _ st3 w13 hs13.at_
            rw [HL1.out] at hcn
            have HCN := Lib.hid hcn
            clear hcn hs13 HPT HL1
            go_wp2_with fail
            refine (num16_any 0 w13).mono ?_
            rintro e w14 ⟨rfl, rfl⟩
            go_wp2_with fail
            refine (num16_any 0 w13).mono ?_
            rintro e w15 ⟨rfl, rfl⟩
            go_wp2_with fail
            refine HCN.out.mono ?_
            rintro e w16 ⟨rfl, rfl⟩
            have hwm : IntKind.i64.wrap ((q : Int) + 1) = ((q + 1 : Nat) : Int) := by rw [IntKind.wrap_i64]; omega
            go_wp2
            go_ret
            exact ⟨by simp, Gr.below_of HS13.out.ext⟩
end Go.Proofs.Ytdbdnfjgmdkneaa
namespace Go.Proofs.Ytdbdnfjgmdkneaa
set_option maxRecDepth 20000
open Go.RowKit Go.Deep Go.ChangeShapes Go.WideShapes
theorem i64wf {z : Int} (h : (Lit.int .i64 z).wf = true) : -9223372036854775808 ≤ z ∧ z ≤ 9223372036854775807 := by simpa [Lit.wf, IntKind.min, IntKind.max, IntKind.bits, IntKind.signed] using h
theorem ints_row {w : World} {x : Addr} {len cap : Nat} {zs : List Int} (hl : len ≤ cap) (hm : cap ≤ maxLen) (hz : zs.length = cap) (hc : ∀ i, i < zs.length → w.cell? (x.add i) = some (.int .i64 (zs.getD i 0))) : Ints w (.slice (some x) len cap) (zs.take len) := by
  by_cases h0 : len = 0
  · subst h0; exact .inl ⟨rfl, some x, cap, rfl, hm⟩
  · have hlen : (zs.take len).length = len := by simp; omega
    refine .inr ?_
    obtain ⟨b, off, rfl, hc'⟩ := ints_at hc (by omega)
    refine ⟨b, off, cap, by rw [hlen], by omega, hm, ?_, fun k hk => ?_⟩
    · exact World.block_lt_of_cell? w _ (hc' 0 (by omega))
    · rw [hlen] at hk
      rw [hc' k (by omega)]
      simp [List.getD_eq_getElem?_getD, hk]
section
variable {H : Type} {enc : TypeId × Value → H} {P : Program} {w : World} {base : Nat} {held : Bool}
theorem open_i64s {t e : TypeId} {fuel : Nat} {v : Value} {x : DataW H × List MemPlace} (ht : P.underlying t = some (.slice e)) (he : P.underlying e = some (.int .i64)) (hc : P.cellsOf e = 1)
    (hv : ∃ a len cap, v = .slice a len cap) (h : DataW.trod enc P w base (fun _ => true) held fuel t v.cells.toList = some x) : ∃ xs, Ints w v xs ∧ ∀ y ∈ xs, -9223372036854775808 ≤ y ∧ y ≤ 9223372036854775807 := by
  obtain ⟨a, len, cap, rfl⟩ := hv
  rcases open_ints ht he hc h with ⟨hcs, _⟩ | ⟨a', len', cap', zs, hcs, _, hl, hm, hz, _, hcell, hwz⟩
  · simp [Value.cells] at hcs
    obtain ⟨rfl, rfl, rfl⟩ := hcs
    exact ⟨[], .inl ⟨rfl, none, 0, rfl, Nat.zero_le _⟩, fun y hy => by cases hy⟩
  · simp [Value.cells] at hcs
    obtain ⟨rfl, rfl, rfl⟩ := hcs
    simp only [if_true] at hz
    exact ⟨zs.take len, ints_row hl hm hz hcell, fun y hy => i64wf (hwz y (List.mem_of_mem_take hy))⟩
end
end Go.Proofs.Ytdbdnfjgmdkneaa
namespace Go.Proofs.Ytdbdnfjgmdkneaa
set_option maxRecDepth 20000
open Go.RowKit Go.Deep Go.Maps
set_option linter.unusedVariables false
theorem i64_and10 (n : Int) : bits .and .i64 n 1023 = n % 1024 := by
  have h24 : (BitVec.ofInt 64 1023).toNat = 2 ^ 10 - 1 := by decide
  have key : (BitVec.ofInt 64 n &&& BitVec.ofInt 64 1023).toNat = (n % ((2 ^ 64 : Nat) : Int)).toNat % 2 ^ 10 := by
    rw [BitVec.toNat_and, BitVec.toNat_ofInt, h24, Nat.and_two_pow_sub_one_eq_mod]
  show IntKind.i64.wrap ((BitVec.ofInt 64 n &&& BitVec.ofInt 64 1023).toNat : Nat) = n % 1024
  rw [key, IntKind.wrap_i64]
  omega
namespace SM
/-- n symbols of object 1, with these Untils. -/
def fulls (U : Nat → Int) (n : Nat) : List Rc := (List.range n).map fun i : Nat => symR 1 (i : Int) (U i)
theorem fulls_succ (U : Nat → Int) (n : Nat) : fulls U (n + 1) = fulls U n ++ [symR 1 (n : Int) (U n)] := by unfold fulls; rw [List.range_succ, List.map_append]; rfl
theorem fulls_length (U : Nat → Int) (n : Nat) : (fulls U n).length = n := by simp [fulls]
theorem fulls_mem {U : Nat → Int} {n : Nat} {x : Rc} (h : x ∈ fulls U n) : ∃ i : Nat, i < n ∧ x = symR 1 (i : Int) (U i) := by
  obtain ⟨i, hi, rfl⟩ := List.mem_map.1 h
  exact ⟨i, List.mem_range.1 hi, rfl⟩
theorem fulls_at {U : Nat → Int} {n k : Nat} (h : k < n) : (fulls U n).getD k Rc.zero = symR 1 (k : Int) (U k) := by
  unfold fulls
  rw [List.getD_eq_getElem?_getD, List.getElem?_map, List.getElem?_range h]; rfl
/-- Which of the first k is forgotten first, the first one of several; 0, if there is none yet. -/
def ls (U : Nat → Int) : Nat → Nat
  | 0 => 0
  | k + 1 => if U k < U (ls U k) then k else ls U k
theorem ls_lt (U : Nat → Int) : ∀ k, 0 < k → ls U k < k
  | k + 1, _ => by
    unfold ls
    split
    · omega
    · rcases Nat.eq_zero_or_pos k with h | h
      · subst h; exact Nat.zero_lt_one
      · have := ls_lt U k h; omega
theorem ls_least {U : Nat → Int} {n : Nat} : ∀ k, k ≤ n → 0 < k → leastTo (fulls U n) k = (ls U k : Int)
  | k + 1, hk, _ => by
    unfold leastTo ls
    rcases Nat.eq_zero_or_pos k with h | h
    · subst h
      rw [if_pos (.inl (by show (-1 : Int) < 0; decide)), if_neg (by show ¬ U 0 < U 0; omega)]; rfl
    · have ih := ls_least (U := U) (n := n) k (by omega) h
      have hl := ls_lt U k h
      rw [ih, Int.toNat_natCast, fulls_at (by omega), fulls_at (by omega)]
      have e : ((symR 1 (k : Int) (U k)).u < (symR 1 ((ls U k : Nat) : Int) (U (ls U k))).u) = (U k < U (ls U k)) := rfl
      by_cases hu : U k < U (ls U k)
      · rw [if_pos (.inr (e.mpr hu)), if_pos hu]
      · rw [if_neg (fun h2 => by rcases h2 with h2 | h2; · omega
                                 · exact hu (e.mp h2)), if_neg hu]
theorem fulls_erase {U : Nat → Int} {n j : Nat} (hj : j < n) {x : Rc} (h : x ∈ (fulls U n).eraseIdx j) : x.e ≠ (j : Int) ∧ x.n = 1 ∧ x.p = 0 := by
  rw [List.mem_eraseIdx_iff_getElem] at h
  obtain ⟨i, hi, hij, rfl⟩ := h
  rw [fulls_length] at hi
  have : (fulls U n)[i]'(by rw [fulls_length]; exact hi) = symR 1 (i : Int) (U i) := by simp [fulls]
  rw [this]
  refine ⟨?_, rfl, rfl⟩
  show (i : Int) ≠ j
  omega
end SM
/-- A store for M symbols with k of object 1. -/
def F16 (U : Nat → Int) (M : Nat) (st : Sto) (k : Nat) : Prop := st.m = M ∧ st.l = SM.fulls U k ∧ st.t = []
theorem f16_one {U : Nat → Int} {M : Nat} {st : Sto} {k : Nat} (hU : ∀ i, 0 ≤ U i ∧ U i ≤ 1023) (h : F16 U M st k) (hk : k < M) (hM : M ≤ 20) : F16 U M (SM.put1 st (symR 1 (k : Int) (U k))) (k + 1) ∧ (SM.keepOf st (symR 1 (k : Int) (U k))).2.2 = 0 := by
  obtain ⟨h1, h2, h3⟩ := h
  obtain ⟨e1, e2, e3, e4⟩ := SM.put_last (st := st) (r := symR 1 (k : Int) (U k)) (SM.sym_right (by omega) (by omega) (by have := hU k; omega)) rfl (by rw [h3]; exact SM.has_nil _) (fun x hx => by
    rw [h2] at hx
    obtain ⟨i, hi, rfl⟩ := SM.fulls_mem hx
    unfold SM.Lt symR; first | (simp; done) | (simp; omega)) (by rw [h1, h2, SM.fulls_length]; omega)
  refine ⟨⟨e3.trans h1, ?_, e2.trans h3⟩, e4⟩
  rw [e1, h2, SM.fulls_succ]
theorem f16_last {U : Nat → Int} {M : Nat} {st : Sto} {more : Int} (hU : ∀ i, 0 ≤ U i ∧ U i ≤ 1023) (h : F16 U M st M) (hM : 1 ≤ M ∧ M ≤ 20) (hm : 0 ≤ more ∧ more ≤ 1048576) :
    (more ≤ U (SM.ls U M) → (SM.put1 st (symR 2 0 more)).l = SM.fulls U M ∧ (SM.keepOf st (symR 2 0 more)).2.2 = 6) ∧
    (¬ more ≤ U (SM.ls U M) → (SM.put1 st (symR 2 0 more)).l = (SM.fulls U M).eraseIdx (SM.ls U M) ++ [symR 2 0 more] ∧ (SM.keepOf st (symR 2 0 more)).2.2 = 0) := by
  obtain ⟨h1, h2, h3⟩ := h
  have hr : KM.Right (symR 2 0 more) := SM.sym_right (by omega) (by omega) (by omega)
  have hlt : ∀ l' : List Rc, (∀ x ∈ l', x ∈ SM.fulls U M) → ∀ x ∈ l', SM.Lt x (symR 2 0 more) := fun l' hl x hx => by
    obtain ⟨i, hi, rfl⟩ := SM.fulls_mem (hl x hx)
    unfold SM.Lt symR; first | (simp; done) | (simp; omega)
  have hJ := SM.ls_lt U M (by omega)
  have hle : SM.least (SM.fulls U M) = (SM.ls U M : Int) := by
    unfold SM.least
    rw [SM.fulls_length]
    exact SM.ls_least M (Nat.le_refl _) (by omega)
  have hk : SM.keepOf st (symR 2 0 more) = if more ≤ U (SM.ls U M) then (st, none, 6) else ({ st with l := SM.ins (symR 2 0 more) (st.l.eraseIdx (SM.ls U M)) }, some (symR 2 0 more), 0) := by
    unfold SM.keepOf
    rw [if_pos hr, if_neg (show ¬ (symR 2 0 more).g = true from Bool.false_ne_true)]
    unfold SM.addOf
    rw [if_neg (by rw [h3]; exact SM.has_nil _), if_neg (by rw [h2, SM.pos_end (hlt _ fun x hx => hx)]; omega), if_neg (by rw [h1, h2, SM.fulls_length]; omega), h2, hle, Int.toNat_natCast, SM.fulls_at hJ]
    have e : (symR 2 0 more).u ≤ (symR 1 ((SM.ls U M : Nat) : Int) (U (SM.ls U M))).u ↔ more ≤ U (SM.ls U M) := Iff.rfl
    by_cases hu : more ≤ U (SM.ls U M)
    · rw [if_pos (.inr (e.2 hu)), if_pos hu]
    · rw [if_neg (fun h => by rcases h with h | h; · omega
                              · exact hu (e.1 h)), if_neg hu]
  refine ⟨fun hu => ?_, fun hu => ?_⟩
  · rw [SM.put1_eq, hk, if_pos hu]
    exact ⟨h2, rfl⟩
  · rw [SM.put1_eq, hk, if_neg hu]
    refine ⟨?_, rfl⟩
    show SM.ins _ _ = _
    rw [h2, SM.ins_end (hlt _ fun x hx => List.mem_of_mem_eraseIdx hx)]
theorem f16_get {U : Nat → Int} {M : Nat} {more : Int} : (SM.fulls U M).filter (isOf (symR 1 0 0)) = SM.fulls U M ∧ (SM.fulls U M).filter (isOf (symR 2 0 0)) = [] := by
  refine ⟨List.filter_eq_self.2 fun x hx => ?_, List.filter_eq_nil_iff.2 fun x hx => ?_⟩
  · obtain ⟨i, _, rfl⟩ := SM.fulls_mem hx
    simp [isOf, SM.Of, symR]
  · obtain ⟨i, _, rfl⟩ := SM.fulls_mem hx
    simp [isOf, SM.Of, symR]
theorem f16_get2 {U : Nat → Int} {M j : Nat} {more : Int} (hj : j < M) : ((SM.fulls U M).eraseIdx j ++ [symR 2 0 more]).filter (isOf (symR 1 0 0)) = (SM.fulls U M).eraseIdx j ∧ ((SM.fulls U M).eraseIdx j ++ [symR 2 0 more]).filter (isOf (symR 2 0 0)) = [symR 2 0 more] := by
  have h1 : ∀ x ∈ (SM.fulls U M).eraseIdx j, isOf (symR 1 0 0) x = true ∧ isOf (symR 2 0 0) x = false := fun x hx => by
    obtain ⟨_, e1, e2⟩ := SM.fulls_erase hj hx
    simp [isOf, SM.Of, symR, e1, e2]
  have e1 : ((SM.fulls U M).eraseIdx j).filter (isOf (symR 1 0 0)) = (SM.fulls U M).eraseIdx j := List.filter_eq_self.2 fun x hx => (h1 x hx).1
  have e2 : ((SM.fulls U M).eraseIdx j).filter (isOf (symR 2 0 0)) = [] := List.filter_eq_nil_iff.2 fun x hx => by rw [(h1 x hx).2]; decide
  have e3 : isOf (symR 1 0 0) (symR 2 0 more) = false := by simp [isOf, SM.Of, symR]
  have e4 : isOf (symR 2 0 0) (symR 2 0 more) = true := by simp [isOf, SM.Of, symR]
  rw [List.filter_append, List.filter_append, e1, e2]
  simp [List.filter, e3, e4]
theorem SOk.get {w0 w : World} {t c : Nat} {st : Sto} (h : SOk w0 w t st c) (r : Rc) :
    Calls Try.prog 43 #[.pointer (some ⟨t, 0, none⟩), .agg #[.int .i64 r.p, .int .i64 r.n]] w (RcsOut w (st.l.filter (isOf r))) :=
  get16_any t _ st r w h.at_ (Nat.le_trans h.inv.room h.inv.most) fun x hx => ⟨(h.inv.sym x hx).1, (h.inv.sym x hx).2.1⟩
end Go.Proofs.Ytdbdnfjgmdkneaa
namespace Go.Proofs.Ytdbdnfjgmdkneaa
set_option maxRecDepth 20000
open Go.RowKit Go.Deep Go.Maps
set_option linter.unusedVariables false
set_option maxHeartbeats 4000000 in
theorem StoreFull_walk (most : Int) (v : Value) (xs : List Int) (more : Int) (w : World) (hn : (Lit.int .i64 most).wf = true) (hv : Ints w v xs ∧ ∀ y ∈ xs, -9223372036854775808 ≤ y ∧ y ≤ 9223372036854775807) (hm : (Lit.int .i64 more).wf = true) :
    Calls Try.prog 7 #[.int .i64 most, v, .int .i64 more] w fun e w' => e = .returned (.bool true) ∧ Below w.heap.size w w' := by
  have hbn := bounds_i64 hn
  have hbm := bounds_i64 hm
  obtain ⟨a, cap, rfl, _, hml⟩ := hv.1.slice
  have hlm := hv.1.len
  unfold maxLen at hlm
  have HCL : Hid (∀ i, i < xs.length → ∃ b off, a = some ⟨b, off, none⟩ ∧ ∀ w', w.Extends w' → w'.cell? ⟨b, off + i, none⟩ = some (.int .i64 (xs.getD i 0))) := fun i hi => by
    obtain ⟨_, h2⟩ := hv.1.cell
    obtain ⟨b, off, e, _, h3⟩ := h2 (by omega)
    exact ⟨b, off, e, fun w' hx => hx.cell_of (h3 i hi)⟩
  obtain ⟨U, hU⟩ : ∃ U : Nat → Int, ∀ i, U i = xs.getD i 0 % 1024 := ⟨fun i => xs.getD i 0 % 1024, fun i => rfl⟩
  have HBIT : Hid (∀ i, bits .and .i64 (xs.getD i 0) 1023 = U i) := fun i => by rw [i64_and10, hU]
  have HUB : Hid (∀ i, 0 ≤ U i ∧ U i ≤ 1023) := fun i => by rw [hU]; omega
  clear hU hn hm hv hml
  generalize hnn : xs.length = n at *
  clear hnn
  by_cases hgood : (1 ≤ most ∧ most ≤ 20) ∧ most ≤ n ∧ (0 ≤ more ∧ more ≤ 1048576)
  rotate_left
  · have hbad : most < 1 ∨ (¬ most < 1 ∧ 20 < most) ∨ (¬ most < 1 ∧ ¬ 20 < most ∧ (n : Int) < most) ∨ (¬ most < 1 ∧ ¬ 20 < most ∧ ¬ (n : Int) < most ∧ more < 0) ∨ (¬ most < 1 ∧ ¬ 20 < most ∧ ¬ (n : Int) < most ∧ ¬ more < 0 ∧ 1048576 < more) := by omega
    have HB := Lib.hid hbad
    clear hbad hgood hbn hbm HCL HBIT HUB
    go_enter Try.func7, Try.ntmps7
    go_wp2_with fail
    refine (alive16_any w).mono ?_
    rintro e w1 ⟨rfl, hx1⟩
    have HX1 := Lib.hid hx1
    clear hx1
    go_upto_region 2 with fail
    go_cut [40] (fun s40 wx => s40 = .bool true ∧ w1 = wx)
    case first =>
      rcases HB.out with h1 | ⟨h1, h2⟩ | ⟨h1, h2, h3⟩ | ⟨h1, h2, h3, h4⟩ | ⟨h1, h2, h3, h4, h5⟩
      all_goals
        go_wp2_with fail
        go_meet
        refine ⟨?_, rfl⟩
        first | rfl | (simp; omega) | (simp [*]; done)
    obtain ⟨rfl, rfl⟩ := hcut
    go_wp2
    go_ret
    exact ⟨rfl, Gr.below_of HX1.out⟩
  · obtain ⟨⟨hn0, hn1⟩, hml, hm0, hm1⟩ := hgood
    obtain ⟨M, rfl⟩ := Int.eq_ofNat_of_zero_le (show 0 ≤ most by omega)
    have g1 : ¬ ((M : Nat) : Int) < 1 := by omega
    have g2 : ¬ 20 < ((M : Nat) : Int) := by omega
    have g3 : ¬ ((n : Nat) : Int) < ((M : Nat) : Int) := by omega
    have g5 : ¬ more < 0 := by omega
    have g6 : ¬ 1048576 < more := by omega
    have hM1 : 1 ≤ M := by omega
    have hM2 : M ≤ 20 := by omega
    have hMn : M ≤ n := by omega
    have HM : Hid (0 ≤ more ∧ more ≤ 1048576) := ⟨hm0, hm1⟩
    have HLS := Lib.hid (SM.ls_lt U)
    clear hbn hbm hn0 hn1 hm0 hm1 hml
    go_enter Try.func7, Try.ntmps7
    go_wp2_with fail
    refine (alive16_any w).mono ?_
    rintro e w1 ⟨rfl, hx1⟩
    have HX1 := Lib.hid hx1
    clear hx1
    go_wp2_with fail
    refine (new16_any ((M : Nat) : Int) w1 (by omega)).mono ?_
    rintro e w2 ⟨rfl, hx2, hs2, hsz2⟩
    have HS2 : Hid (SOk w w2 w1.heap.size (SM.new (M : Nat)) 0) := ⟨hs2.mono fun i hi => by have := HX1.out.size; omega, SM.inv_new _, Gr.ext_trans HX1.out hx2, Nat.zero_le _, Nat.zero_le _⟩
    have HG2 : Hid (F16 U M (SM.new (M : Nat)) 0) := ⟨by show SM.cut ((M : Nat) : Int) = M; unfold SM.cut; rw [if_neg (by omega), if_neg (by omega)]; rfl, rfl, rfl⟩
    clear hx2 hs2 hsz2 g1 g2 g3 g5 g6
    generalize w1.heap.size = t at *
    go_wp2_with fail
    go_loopw [9, 10] (fun s9 s10 wr => ∃ (k : Nat) (st : Sto), k ≤ M ∧ s9 = .int .i64 ((SM.ls U k : Nat) : Int) ∧ s10 = .int .i64 k ∧ Hid (SOk w wr t st k) ∧ Hid (F16 U M st k)) (fun _ s10 _ => M - (intOf s10).toNat)
    case atStart => exact ⟨0, _, by omega, by rfl, by rfl, HS2, HG2⟩
    case round =>
      obtain ⟨k, st, hk, rfl, rfl, HS, HG⟩ := hrel
      by_cases h1 : k < M
      · obtain ⟨b, off, rfl, hck⟩ := HCL.out k (by omega)
        have hcu := hck wr HS.out.ext
        have hbk := HBIT.out k
        obtain ⟨hf1, hf2⟩ := f16_one HUB.out HG.out h1 hM2
        have HGN := Lib.hid hf1
        have hjk : SM.ls U k < n := by
          rcases Nat.eq_zero_or_pos k with h | h
          · subst h; show 0 < n; omega
          · have := HLS.out k h; omega
        have HSTP : Hid (SM.ls U (k + 1) = if U k < U (SM.ls U k) then k else SM.ls U k) := rfl
        have HCJ : Hid (∀ w', w.Extends w' → w'.cell? ⟨b, off + SM.ls U k, none⟩ = some (.int .i64 (xs.getD (SM.ls U k) 0)) ∧ bits .and .i64 (xs.getD (SM.ls U k) 0) 1023 = U (SM.ls U k)) := fun w' hx => by
          obtain ⟨b', off', e, hcj⟩ := HCL.out (SM.ls U k) hjk
          cases e
          exact ⟨hcj w' hx, HBIT.out _⟩
        have HPT0 := Lib.hid (fun (w3 w4 : World) (v : Value) (hs : SymOut16 wr (symR 1 (k : Int) (U k)) (.returned v) w3) => put_sym (w2 := w4) HS.out (by omega) hs)
        rw [hf2] at HPT0
        have HSYM := Lib.hid (symbol16_any 1 k (U k) wr)
        clear hck hf1 hf2 HG HS
        generalize SM.put1 st _ = st2 at *
        generalize SM.ls U k = j at *
        generalize xs.getD k 0 = x at *
        generalize U k = uk at *
        go_wp2_with fail
        refine HSYM.out.mono ?_
        rintro e w3 hsy
        obtain ⟨sa, cc, rfl, hrest⟩ := id hsy
        have HPT := Lib.hid (fun w4 => HPT0.out w3 w4 _ ⟨sa, cc, rfl, hrest⟩)
        clear hsy hrest HPT0 hcu hbk HSYM
        simp only [symR, Rc.val] at HPT ⊢
        go_wp2_with fail
        refine (HPT.out _ rfl).mono ?_
        rintro e w5 ⟨rfl, hs5⟩
        have HS5 := Lib.hid hs5
        clear hs5 HPT
        go_wp2_with fail
        refine (num16_any 0 w5).mono ?_
        rintro e w6 ⟨rfl, rfl⟩
        obtain ⟨hcj, hbj⟩ := HCJ.out w5 HS5.out.ext
        clear HCJ
        generalize xs.getD j 0 = xj at *
        generalize U j = uj at *
        by_cases hlt : uk < uj
        · have HSN : Hid (SM.ls U (k + 1) = k) := by show _ = _; rw [HSTP.out, if_pos hlt]
          clear HSTP
          go_wp2
          go_roundw
          case rel => exact ⟨k + 1, _, by omega, by rw [HSN.out], by go_num, HS5, HGN⟩
          case measure => simp [intOf]; omega
        · have HSN : Hid (SM.ls U (k + 1) = j) := by show _ = _; rw [HSTP.out, if_neg hlt]
          clear HSTP
          go_wp2
          go_roundw
          case rel => exact ⟨k + 1, _, by omega, by rw [HSN.out], by go_num, HS5, HGN⟩
          case measure => simp [intOf]; omega
      · obtain rfl : k = M := by omega
        have HSYM := Lib.hid (symbol16_any 2 0 more wr)
        obtain ⟨hA, hB⟩ := f16_last HUB.out HG.out ⟨hM1, hM2⟩ HM.out
        have hJ := HLS.out k (by omega)
        obtain ⟨b, off, rfl, hcj⟩ := HCL.out (SM.ls U k) (by omega)
        have HCJ : Hid (∀ w', w.Extends w' → w'.cell? ⟨b, off + SM.ls U k, none⟩ = some (.int .i64 (xs.getD (SM.ls U k) 0)) ∧ bits .and .i64 (xs.getD (SM.ls U k) 0) 1023 = U (SM.ls U k)) := fun w' hx => ⟨hcj w' hx, HBIT.out _⟩
        have HPT0 := Lib.hid (fun (w3 w4 : World) (v : Value) (hs : SymOut16 wr (symR 2 0 more) (.returned v) w3) => put_sym (w2 := w4) HS.out (by omega) hs)
        have HEL : Hid ((SM.fulls U k).length = k ∧ ((SM.fulls U k).eraseIdx (SM.ls U k)).length = k - 1) := ⟨SM.fulls_length U k, by rw [List.length_eraseIdx, SM.fulls_length, if_pos hJ]⟩
        have HNE : Hid (∀ i, i < k - 1 → (((SM.fulls U k).eraseIdx (SM.ls U k)).getD i Rc.zero).e ≠ ((SM.ls U k : Nat) : Int)) := fun i hi => by
          refine (SM.fulls_erase (U := U) hJ ?_).1
          rw [List.getD_eq_getElem?_getD, List.getElem?_eq_getElem (by rw [HEL.out.2]; exact hi)]
          exact List.getElem_mem _
        have HGA := Lib.hid (f16_get (U := U) (M := k) (more := more))
        have HGB := Lib.hid (f16_get2 (U := U) (M := k) (more := more) hJ)
        have HA := Lib.hid hA
        have HB := Lib.hid hB
        clear hA hB hcj HG HS HBIT HUB HLS HCL HG2 HS2
        generalize SM.put1 st _ = st2 at *
        generalize (SM.keepOf st _).2.2 = er at *
        generalize (SM.fulls U k).eraseIdx (SM.ls U k) = LE at *
        generalize SM.fulls U k = LF at *
        generalize SM.ls U k = j at *
        generalize xs.getD j 0 = xj at *
        generalize U j = uj at *
        go_wp2_with fail
        refine HSYM.out.mono ?_
        rintro e w3 hsy
        obtain ⟨sa, cc, rfl, hrest⟩ := id hsy
        have HPT := Lib.hid (fun w4 => HPT0.out w3 w4 _ ⟨sa, cc, rfl, hrest⟩)
        clear hsy hrest HPT0 HSYM
        simp only [symR, Rc.val] at HPT ⊢
        go_wp2_with fail
        refine (HPT.out _ rfl).mono ?_
        rintro e w5 ⟨rfl, hs5⟩
        have HS5 := Lib.hid hs5
        have hg1 := hs5.get (symR 1 0 0)
        have HG1 := Lib.hid hg1
        clear hs5 HPT hg1
        simp only [symR] at HG1
        go_wp2_with fail
        refine HG1.out.mono ?_
        rintro e w6 ⟨v6, rfl, hx6, hr6⟩
        have HS6 := Lib.hid (HS5.out.later hx6)
        have HR6 := Lib.hid hr6
        have hg2 := HS6.out.get (symR 2 0 0)
        have HG2 := Lib.hid hg2
        clear hx6 hr6 hg2 HS5 HG1
        simp only [symR] at HG2 HR6
        obtain ⟨a6, c6, hv6⟩ := HR6.out.slice
        have HV6 := Lib.hid hv6
        clear hv6
        go_wp2_with fail
        refine HG2.out.mono ?_
        rintro e w7 ⟨v7, rfl, hx7, hr7⟩
        have HS7 := Lib.hid (HS6.out.later hx7)
        have HR67 := Lib.hid (HR6.out.ext hx7)
        obtain ⟨a7, c7, hv7⟩ := hr7.slice
        obtain ⟨hc7, hb7⟩ := HCJ.out w7 HS7.out.ext
        clear HS6 HG2 HR6 hx7 HCJ
        have hv6 := HV6.out
        clear HV6
        by_cases hu : more ≤ uj
        · obtain ⟨e1, rfl⟩ := HA.out hu
          rw [show ((6 : Nat) : Int) = 6 from rfl]
          rw [e1] at hv6 hv7
          have e2 : LF.filter (isOf ⟨0, 1, 4, 2, 2, 0, 0, false, 0, [((1 : Int) % 256).toNat, ((0 : Int) % 256).toNat]⟩) = LF := HGA.out.1
          have e3 : LF.filter (isOf ⟨0, 2, 4, 2, 2, 0, 0, false, 0, [((2 : Int) % 256).toNat, ((0 : Int) % 256).toNat]⟩) = [] := HGA.out.2
          rw [e2, HEL.out.1] at hv6
          rw [e3] at hv7
          have hv7 : v7 = .slice a7 0 c7 := hv7
          subst hv6
          subst hv7
          clear hr7 HR67 HGA HGB HA HB HNE e1 e2 e3
          go_wp2_with fail
          refine (num16_any _ w7).mono ?_
          rintro e w8 ⟨rfl, rfl⟩
          go_wp2
          go_ret
          exact ⟨by simp, Gr.below_of HS7.out.ext⟩
        · obtain ⟨e1, rfl⟩ := HB.out (by omega)
          rw [show ((0 : Nat) : Int) = 0 from rfl]
          have hu2 : uj < more := by omega
          rw [e1] at hv6 hv7 HR67
          have e2 : (LE ++ [symR 2 0 more]).filter (isOf ⟨0, 1, 4, 2, 2, 0, 0, false, 0, [((1 : Int) % 256).toNat, ((0 : Int) % 256).toNat]⟩) = LE := HGB.out.1
          have e3 : (LE ++ [symR 2 0 more]).filter (isOf ⟨0, 2, 4, 2, 2, 0, 0, false, 0, [((2 : Int) % 256).toNat, ((0 : Int) % 256).toNat]⟩) = [symR 2 0 more] := HGB.out.2
          rw [e2] at HR67
          rw [e2, HEL.out.2] at hv6
          rw [e3] at hv7
          subst hv6
          have hv7 : v7 = .slice a7 1 c7 := hv7
          subst hv7
          have HAT := Lib.hid HR67.out.at.2
          have hcn := count_any t _ st2 w7 HS7.out.at_
          have hl2 : st2.l.length = k := by rw [e1, List.length_append, HEL.out.2]; simp; omega
          rw [hl2] at hcn
          have HCN := Lib.hid hcn
          clear hr7 HR67 HGA HGB HA HB e1 e2 e3 hcn hl2 HEL
          have hwk : IntKind.i64.wrap ((k : Int) - 1) = ((k - 1 : Nat) : Int) := by rw [IntKind.wrap_i64]; omega
          go_wp2_with fail
          refine (num16_any _ w7).mono ?_
          rintro e w8 ⟨rfl, rfl⟩
          go_wp2_with fail
          go_loopw [15] (fun s15 wr => ∃ q : Nat, q ≤ k - 1 ∧ s15 = .int .i64 q ∧ w7 = wr) (fun s15 _ => k - 1 - (intOf s15).toNat)
          case atStart => exact ⟨0, by omega, by rfl, rfl⟩
          case round =>
            obtain ⟨q, hq, rfl, rfl⟩ := hrel
            by_cases h2 : q < k - 1
            · obtain ⟨b', off', rfl, _, hce⟩ := HAT.out (by omega)
              obtain ⟨xa, xc, hr, _⟩ := hce q h2
              have hne := HNE.out q h2
              obtain ⟨-, -, -, -, -, -, d6, -, -, -⟩ := RCell.ten hr
              clear hr hce
              generalize (LE.getD q Rc.zero).e = xe at *
              have hne2 : (xe == ((j : Nat) : Int)) = false := by rw [beq_eq_false_iff_ne]; exact hne
              go_wp2
              go_roundw
              case rel => exact ⟨q + 1, by omega, by go_num, trivial⟩
              case measure => simp [intOf]; omega
            · obtain rfl : q = k - 1 := by omega
              clear HAT HNE
              go_wp2_with fail
              refine HCN.out.mono ?_
              rintro e w9 ⟨rfl, rfl⟩
              go_wp2
              go_ret
              exact ⟨by simp, Gr.below_of HS7.out.ext⟩
end Go.Proofs.Ytdbdnfjgmdkneaa
