/- In one text: StoClone. -/
import Derived.Deep.DeepCutAuto
import Derived.Handy
import Derived.Test.YtdbdnfjgmdkneaaMB4
import Derived.Test.YtdbdnfjgmdkneaaMB6
namespace Go.Proofs.Ytdbdnfjgmdkneaa
set_option maxRecDepth 20000
open Go.RowKit Go.Deep
set_option linter.unusedVariables false
/-- A copy in a block of bytes of its own. -/
def CopyOut (w : World) (xs : List Nat) (e : Ending) (w' : World) : Prop := ∃ a c, e = .returned (.slice a xs.length c) ∧ w.Extends w' ∧ U8s w' (.slice a xs.length c) xs ∧ ∀ g, (Value.slice a xs.length c).ownBlock = some g → (w.heap.size ≤ g ∧ g < w'.heap.size) ∧ ∃ cs, w'.heap[g]? = some (.cells cs 5 (0, 0))
theorem copy_of {w w' : World} {v : Value} {xs : List Nat} (hx : w.Extends w') (ho : w'.ownsRow w.heap.size 5 1 v xs.length (u8vs xs)) (hlt : ∀ x ∈ xs, x < 256) : ∃ a c, v = .slice a xs.length c ∧ CopyOut w xs (.returned v) w' := by
  obtain ⟨a, c, rfl⟩ := owns_slice ho
  refine ⟨a, c, rfl, a, c, rfl, hx, owns_u8s ho hlt, fun g hg => ⟨ho.lt g hg, ?_⟩⟩
  rcases ho.2 with ⟨e, _⟩ | ⟨g', cap, cur, e, _, hh, _⟩
  · rw [e] at hg; cases hg
  · rw [e] at hg
    simp only [Value.ownBlock, Option.some.injEq] at hg
    subst hg
    exact ⟨_, hh⟩
theorem eql_bytes_nil (a : Option Addr) (n c : Nat) (w : World) : (binOp .eql 26 (.slice a n c) (.slice none 0 0)).run Try.prog w = .ok (.bool a.isNone) w := by
  have h : ∀ d, (Op.equalIn (d + 1) 26 (.slice a n c) (.slice none 0 0)).run Try.prog w = .ok a.isNone w := fun d => by
    cases a <;> simp [Op.equalIn, run_underlying Try.underlying26]
  simp only [binOp]
  simp [Op.equal, Op.maxDepth, h 9999]
theorem clone_any (v : Value) (xs : List Nat) (w : World) (hv : U8s w v xs) (hx : xs ≠ []) (hl : xs.length ≤ 1000000) : Calls Try.prog 78 #[v] w (CopyOut w xs) := by
  obtain ⟨iu, hiu, hz0, hz1, hz2⟩ := info_parts byteinfo
  have HI := Lib.hid hiu
  have HZ0 := Lib.hid hz0
  have HZ1 := Lib.hid hz1
  have HZ2 := Lib.hid hz2
  have hlt := hv.lt
  have HSRC : Hid (∀ w', w.Extends w' → Src Try.prog 1 26 v xs.length (u8vs xs) w') := fun w' hx => (hv.ext hx).src Try.underlying26
  have HEND : Hid (∀ v' w1 w', w.Extends w1 → w1.heap.size = w.heap.size + 1 → w1.heap[w.heap.size]? = some (.cells #[] 5 (0, 0)) → w'.ownsRow w.heap.size 5 1 v' xs.length (u8vs xs) → w1.grownBy w' (some w.heap.size) → ∃ a c, v' = .slice a xs.length c ∧ CopyOut w xs (.returned v') w') := fun v' w1 w' h1 h2 h3 ho hg => by
    exact copy_of (h1.grown hg (fun k hk => by have := Option.some.inj hk; omega)) ho hlt
  rcases hv with ⟨e, _⟩ | ⟨b, off, cap, rfl, h1, h2, h3, h4, h5⟩
  · exact absurd e hx
  · clear h1 h2 h3 h4 h5 hx hlt hiu hz0 hz1 hz2
    unfold CopyOut at *
    generalize hn : xs.length = n at *
    clear hn
    go_enter Try.func78, Try.ntmps78
    have hnil := fun w => eql_bytes_nil (some ⟨b, off, none⟩) n cap w
    rw [show (some (⟨b, off, none⟩ : Addr)).isNone = false from rfl] at hnil
    have hmk : (w.alloc (.cells #[] 5)).ownsRow w.heap.size 5 1 (.slice (some ⟨w.heap.size, 0, none⟩) 0 0) 0 [] := World.ownsRow_made w #[] 0 (Nat.le_refl _) (by decide) rfl
    have HMK := Lib.hid hmk
    have HSR := Lib.hid (HSRC.out _ (ext_alloc w (.cells #[] 5)))
    have HX1 := Lib.hid (ext_alloc w (.cells #[] 5))
    have HA1 : Hid ((w.alloc (.cells #[] 5)).heap[w.heap.size]? = some (.cells #[] 5 (0, 0))) := heap_alloc_new w _
    clear hmk
    go_wp2_with (at_builtin; refine wpList_append_own_src _ rfl _ _ 26 26 rfl w.heap.size 5 iu (.int .u8 0) 1 1 Try.underlying26 HI.out HZ0.out HZ1.out HZ2.out rfl _ _ _ rfl HMK.out _ n (u8vs xs) rfl HSR.out (by unfold maxLen; omega) (by omega) (by simp) ?_)
    intro v' w' ho hg _
    obtain ⟨a, c, rfl, HP⟩ := HEND.out v' _ w' HX1.out (by simp) HA1.out ho hg
    have HP := Lib.hid HP
    clear ho hg HEND HSRC HMK HSR HX1 HA1
    go_wp2
    go_ret
    exact HP.out
/-- slices.Insert of one record, wherever. -/
theorem ins_any (v : Value) (ps : List Pr) (i b : Nat) (p : Pr) (T : TypeId) (w : World) (hv : OwnR w v ps) (hl : ps.length ≤ 1000) (hi : i ≤ ps.length) (hb : w.heap[b]? = some (.cells (p.1.cells p.2).toArray T (0, 0))) (hbv : v.ownBlock ≠ some b) (hp : Slc p) :
    Calls Try.prog 106 #[v, .int .i64 i, .slice (some ⟨b, 0, none⟩) 1 1] w (InsOut w v (insAt ps i p)) := by
  have hrb : w.rangeAt b 0 (p.1.cells p.2) := fun j c hj => by
    rw [cell_of_row _ _ _ _ _ _ hb, List.getElem?_toArray, Nat.zero_add]; exact hj
  rcases Nat.eq_or_lt_of_le hi with e | hlt
  · subst e; exact ins_end v ps b p w hv hl hrb hp
  · rcases hv.kinds with ⟨rfl, rfl⟩ | ⟨g, cap, rfl⟩
    · simp at hlt
    · have hbg : b ≠ g := fun e => hbv (by rw [e]; rfl)
      obtain ⟨⟨cur, _, _, h3, _, _⟩, _⟩ := hv.arr
      rcases Nat.eq_or_lt_of_le h3 with e | h4
      · rw [← e] at hv ⊢
        exact ins_grow g ps.length i ps b p T w hv hl hlt hb hp
      · exact ins_room g cap ps.length i ps b p T w hv hl hlt h4 hb hbg hp
/-- A record alone in a block. -/
theorem Arr.box (w : World) (r : Rc) (u : Value) : Arr (w.alloc (.cells (r.cells u).toArray 28)) w.heap.size 1 1 (fun _ => (r, u)) :=
  ⟨r.cells u, heap_alloc_new w _, rfl, Nat.le_refl _, by decide, fun k hk i hi => by
    obtain rfl : k = 0 := by omega
    rw [Nat.zero_mul, Nat.zero_add]⟩
theorem Arr.datum {w w' : World} {g cap n i : Nat} {f : Nat → Pr} (h : Arr w g cap n f) (hi : i < n) (u : Value) (hw : w' = w.setCell ⟨g, i * 10 + 9, none⟩ u) : Arr w' g cap n (upd f i ((f i).1, u)) ∧ w.grownBy w' (some g) := by
  subst hw
  refine ⟨?_, grown_set _ _ _ _⟩
  obtain ⟨cur, h1, h2, h3, h4, h5⟩ := h
  refine ⟨cur.set (i * 10 + 9) u, ?_, by rw [List.length_set]; exact h2, h3, h4, fun k hk j hj => ?_⟩
  · rw [heap_setCell_same _ _ _ _ _ _ h1]; simp
  · unfold upd
    rw [List.getElem?_set]
    by_cases hki : k = i
    · subst hki
      rw [if_pos rfl]
      by_cases hj9 : j = 9
      · subst hj9
        rw [if_pos rfl, if_pos (by omega)]; rfl
      · rw [if_neg (by omega), h5 k hk j hj]
        obtain rfl | rfl | rfl | rfl | rfl | rfl | rfl | rfl | rfl : j = 0 ∨ j = 1 ∨ j = 2 ∨ j = 3 ∨ j = 4 ∨ j = 5 ∨ j = 6 ∨ j = 7 ∨ j = 8 := by omega
        all_goals rfl
    · rw [if_neg hki, if_neg (by omega)]
      exact h5 k hk j hj
theorem Arr.one {w : World} {g : Nat} {f : Nat → Pr} {p : Pr} (h : Arr w g 1 1 f) (hp : f 0 = p) : w.rangeAt g 0 (p.1.cells p.2) := by
  have := h.range (k := 0) (by omega)
  rw [hp, Nat.zero_mul] at this
  exact this
theorem copyrec_any (r : Rc) (ua : Option Addr) (uc : Nat) (w : World) (hu : U8s w (.slice ua r.d.length uc) r.d) (hl : r.d.length ≤ 1000000) :
    Calls Try.prog 69 #[r.val (.slice ua r.d.length uc)] w fun e w' => ∃ a c, e = .returned (r.val (.slice a r.d.length c)) ∧ CopyOut w r.d (.returned (.slice a r.d.length c)) w' := by
  obtain ⟨iu, hiu, hz0, hz1, hz2⟩ := info_parts byteinfo
  have HI := Lib.hid hiu
  have HZ0 := Lib.hid hz0
  have HZ1 := Lib.hid hz1
  have HZ2 := Lib.hid hz2
  have hlt := hu.lt
  have HSRC : Hid (∀ w', w.Extends w' → Src Try.prog 1 26 (.slice ua r.d.length uc) r.d.length (u8vs r.d) w') := fun w' hx => (hu.ext hx).src Try.underlying26
  obtain ⟨p, n, b, s, m, k, e, g, u, d⟩ := r
  simp only at HSRC hl hlt
  have HLT := Lib.hid hlt
  show Calls Try.prog 69 #[.agg #[.int .i64 p, .int .i64 n, .int .i64 b, .int .i64 s, .int .i64 m, .int .i64 k, .int .i64 e, .bool g, .int .i64 u, .slice ua d.length uc]] w _
  clear hu hiu hz0 hz1 hz2 hlt
  go_enter Try.func69, Try.ntmps69
  go_upto_region 1 with fail
  generalize hw1 : World.alloc w _ = w1
  generalize hw2 : World.alloc w1 _ = w2
  have hs1 : w1.heap.size = w.heap.size + 1 := by subst hw1; simp
  have hs2 : w2.heap.size = w.heap.size + 2 := by subst hw2; simp [hs1]
  have hx1 : w.Extends w1 := by subst hw1; exact ext_alloc _ _
  have hx2 : w1.Extends w2 := by subst hw2; exact ext_alloc _ _
  have ha1 : Arr w1 w.heap.size 1 1 (fun _ => (⟨p, n, b, s, m, k, e, g, u, d⟩, .slice ua d.length uc)) := by subst hw1; exact Arr.box w ⟨p, n, b, s, m, k, e, g, u, d⟩ _
  have ha2 : Arr w2 w1.heap.size 1 1 (fun _ => (Rc.zero, .slice none 0 0)) := by subst hw2; exact Arr.box w1 Rc.zero _
  rw [hs1] at ha2
  have ha1 := ha1.ext hx2
  have HX2 := Lib.hid (Gr.ext_trans hx1 hx2)
  have HSR := Lib.hid (HSRC.out w2 HX2.out)
  obtain ⟨c0, c1, c2, c3, c4, c5, c6, c7, c8, c9⟩ := RCell.ten (ha1.one rfl)
  simp only [Nat.zero_add] at c0 c1 c2 c3 c4 c5 c6 c7 c8 c9
  have f9 := ha1.frozen 9
  obtain ⟨y, hy⟩ : ∃ y, y = w.heap.size := ⟨_, rfl⟩
  rw [← hy] at ha1 ha2 hs2 c0 c1 c2 c3 c4 c5 c6 c7 c8 c9 f9 ⊢
  have HYW := Lib.hid hy
  have HA1 := Lib.hid ha1
  have HA2 := Lib.hid ha2
  have HS2 := Lib.hid hs2
  clear hw1 hw2 hs1 hx1 hx2 hy hs2 ha1 ha2 HSRC
  generalize hdl : d.length = dl at *
  have HDL := Lib.hid hdl
  clear hdl
  go_wp2_with (at_builtin; refine wpList_append_own_src _ rfl _ _ 26 26 rfl w2.heap.size 5 iu (.int .u8 0) 1 1 Try.underlying26 HI.out HZ0.out HZ1.out HZ2.out rfl _ _ _ rfl (World.ownsRow_nil _ _ _ _) _ dl (u8vs d) rfl HSR.out (by unfold maxLen; omega) (by omega) (Nat.le_refl _) ?_)
  intro v' w3 ho hg _
  have hx3 : w2.Extends w3 := ext_below ⟨hg.os, hg.tape, hg.output, hg.size, fun i hi => hg.block i hi (by intro h; cases h)⟩ rfl
  obtain ⟨a, c, rfl⟩ := owns_slice (by simpa using ho)
  have ho3 : w3.ownsRow w2.heap.size 5 1 (.slice a dl c) dl (u8vs d) := by simpa using ho
  have HA13 := Lib.hid (HA1.out.ext hx3)
  have HA23 := Lib.hid (HA2.out.ext hx3)
  obtain ⟨c0, c1, c2, c3, c4, c5, c6, c7, c8, c9⟩ := RCell.ten (HA13.out.one rfl)
  simp only [Nat.zero_add] at c0 c1 c2 c3 c4 c5 c6 c7 c8 c9
  have f9' := HA13.out.frozen 9
  have hy3 : y + 1 < w3.heap.size := HA23.out.lt
  have HOB : Hid (∀ g, (Value.slice a dl c).ownBlock = some g → y + 2 ≤ g ∧ g < w3.heap.size) := fun g hg => by
    have := ho3.lt g hg
    rw [HS2.out] at this
    exact this
  have HBK : Hid (∀ g, (Value.slice a dl c).ownBlock = some g → ∃ cs, w3.heap[g]? = some (.cells cs 5 (0, 0))) := fun g hg => by
    rcases ho3.2 with ⟨e, _⟩ | ⟨g', cap, cur, e, _, hh, _⟩
    · rw [e] at hg; cases hg
    · rw [e] at hg
      simp only [Value.ownBlock, Option.some.injEq] at hg
      subst hg
      exact ⟨_, hh⟩
  have HU3 : Hid (U8s w3 (.slice a dl c) d) := owns_u8s ho3 HLT.out
  have HX3 := Lib.hid (Gr.ext_trans HX2.out hx3)
  clear ho hg ho3 hx3 f9 HA1 HA2 HS2
  go_upto_region 2 with fail
  generalize hw4 : World.setCell w3 _ _ = w4
  obtain ⟨ha4, hg4⟩ := HA13.out.datum (i := 0) (w' := w4) (by omega) (.slice a dl c) hw4.symm
  have ha24 : Arr w4 (y + 1) 1 1 _ := HA23.out.kept (hg4.block (y + 1) HA23.out.lt (by simp))
  have hys : Hid (∀ w5, w4.grownBy w5 (some (y + 1)) → CopyOut w d (.returned (.slice a dl c)) w5) := fun w5 hg5 => by
    have hyw := HYW.out
    have hx : w.Extends w5 := (HX3.out.grown hg4 (fun k hk => by have := Option.some.inj hk; omega)).grown hg5 (fun k hk => by have := Option.some.inj hk; omega)
    have hbl : ∀ g, (Value.slice a dl c).ownBlock = some g → w5.heap[g]? = w3.heap[g]? := fun g hg => by
      obtain ⟨h1, h2⟩ := HOB.out g hg
      exact (hg5.block g (Nat.lt_of_lt_of_le h2 hg4.size) (by simp; omega)).trans (hg4.block g h2 (by simp; omega))
    refine ⟨a, c, by rw [HDL.out], hx, ?_, fun g hg => ?_⟩
    · rw [HDL.out]
      exact HU3.out.same (Nat.le_trans hg4.size hg5.size) (.inr hbl)
    · rw [HDL.out] at hg
      obtain ⟨h1, h2⟩ := HOB.out g hg
      obtain ⟨cs, hc⟩ := HBK.out g hg
      exact ⟨⟨by omega, Nat.lt_of_lt_of_le h2 (Nat.le_trans hg4.size hg5.size)⟩, cs, (hbl g hg).trans hc⟩
  clear hw4 hg4 c0 c1 c2 c3 c4 c5 c6 c7 c8 c9 f9' hy3 HOB HU3 HX3 HA13 HA23 HBK HLT
  obtain ⟨c0, c1, c2, c3, c4, c5, c6, c7, c8, c9⟩ := RCell.ten (ha4.one (p := (⟨p, n, b, s, m, k, e, g, u, d⟩, .slice a dl c)) rfl)
  simp only [Nat.zero_add] at c0 c1 c2 c3 c4 c5 c6 c7 c8 c9
  have HA24 := Lib.hid ha24
  have HSLC : Hid (Slc ((⟨p, n, b, s, m, k, e, g, u, d⟩, .slice a dl c) : Pr)) := ⟨a, c, by rw [HDL.out]⟩
  clear ha4 ha24
  go_wp2_with (refine wpList_store_rec rfl 28 recsize _ _ rfl (y + 1) 0 0 1 1 _ (⟨p, n, b, s, m, k, e, g, u, d⟩, .slice a dl c) rfl rfl rfl HA24.out (by omega) HSLC.out ?_)
  intro w5 ha5 hg5
  have HP := Lib.hid (hys.out w5 hg5)
  clear c0 c1 c2 c3 c4 c5 c6 c7 c8 c9
  obtain ⟨c0, c1, c2, c3, c4, c5, c6, c7, c8, c9⟩ := RCell.ten (ha5.one (p := (⟨p, n, b, s, m, k, e, g, u, d⟩, .slice a dl c)) rfl)
  simp only [Nat.zero_add] at c0 c1 c2 c3 c4 c5 c6 c7 c8 c9
  clear ha5 hg5 hys HA24 HSLC
  go_wp2
  refine bodyPost_ret (v := (⟨p, n, b, s, m, k, e, g, u, d⟩ : Rc).val (.slice a dl c)) (by simp [results, Try.results69, go_sem, c0, c1, c2, c3, c4, c5, c6, c7, c8, c9]; try rfl) rfl ?_
  exact ⟨a, c, by rw [HDL.out], by rw [HDL.out]; exact HP.out⟩
end Go.Proofs.Ytdbdnfjgmdkneaa
