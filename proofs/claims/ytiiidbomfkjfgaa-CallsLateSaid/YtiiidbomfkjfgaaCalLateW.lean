/- CallsLate's function answers true. -/
import Derived.Test.YtiiidbomfkjfgaaCalLive
namespace Go.Proofs.Ytiiidbomfkjfgaa
set_option maxRecDepth 20000
open Go.RowKit Go.Deep
set_option linter.unusedVariables false
set_option maxHeartbeats 4000000 in
theorem CallsLate_walk (now at_ : Int) (w : World) (hn0 : (Lit.int .i64 now).wf = true) (ha0 : (Lit.int .i64 at_).wf = true) :
    Calls Try.prog 4 #[.int .i64 now, .int .i64 at_] w fun e w' => e = .returned (.bool true) ∧ Below w.heap.size w w' := by
  have hn := wf_in64 hn0
  have ha := wf_in64 ha0
  clear hn0 ha0
  go_enter Try.func4, Try.ntmps4
  go_wp2_with fail
  refine (alive21_any w).mono ?_
  rintro e w0 ⟨rfl, hx0⟩
  have HX0 := Lib.hid hx0
  clear hx0
  by_cases h1 : now < 0
  · go_wp2
    go_ret
    exact ⟨rfl, Gr.below_of HX0.out⟩
  by_cases h2 : 1073741824 < now
  · go_wp2
    go_ret
    exact ⟨rfl, Gr.below_of HX0.out⟩
  by_cases h3 : at_ < 0
  · go_wp2
    go_ret
    exact ⟨rfl, Gr.below_of HX0.out⟩
  by_cases h4 : 1073741824 < at_
  · go_wp2
    go_ret
    exact ⟨rfl, Gr.below_of HX0.out⟩
  have HUN : Hid (untilOf now = now + 6) := by show _ = _; unfold untilOf; omega
  have hnow : In64 now := hn
  have HNEW := Lib.hid (Cw.new w0)
  have HB0 : Hid (∀ o, Below w.heap.size w (w0.alloc o)) := fun o => (Gr.below_of HX0.out).trans ((Gr.below_of (ext_alloc _ _)).mono HX0.out.size)
  have HWC : Hid (w.heap.size ≤ w0.heap.size) := HX0.out.size
  go_upto_region 5 with fail
  have HB1 := Lib.hid (HB0.out (.cells #[.pointer none] 27))
  generalize hw1 : World.alloc w0 _ = w1 at *
  generalize w0.heap.size = c at *
  clear hw1 HB0 HX0
  have HAD := Lib.hid (cw_add c 0 [] 3 4 now w1 HNEW.out (by omega) (by decide) hnow)
  clear hnow
  go_wp2_with fail
  refine HAD.out.mono ?_
  rintro e w2 ⟨rfl, hb2, hc2⟩
  have e9 : ([] : List Cl) ++ [⟨((0 : Nat) : Int) + 1, 3, 4, untilOf now⟩] = [⟨1, 3, 4, now + 6⟩] := by
    rw [HUN.out]; rfl
  rw [e9] at hc2
  have HB2 := Lib.hid (HB1.out.trans (hb2.mono HWC.out))
  have HLT := Lib.hid (cw_late c 1 _ at_ w2 hc2)
  clear hb2 hc2 HAD HNEW HB1 e9 HUN
  simp only [Int.cast_ofNat_Int, Int.zero_add]
  go_wp2_with fail
  refine HLT.out.mono ?_
  rintro e w3 ⟨hb3, v, ls, csr, rfl, hcl, hp, hl1, hl2, hc3⟩
  have HB3 := Lib.hid (HB2.out.trans (hb3.mono HWC.out))
  have HTK := Lib.hid (cw_take c 1 csr 1 4 w3 hc3 (by decide))
  clear hb3 hc3 HLT HB2
  have HENDX : Hid (∀ w4 w5, Below c w3 w4 → w4.Extends w5 → Below w.heap.size w w5 ∧ True) := fun w4 w5 hb hx => by
    have h6 := HB3.out.trans (hb.mono HWC.out)
    exact ⟨h6.trans ((Gr.below_of hx).mono h6.size), trivial⟩
  by_cases hlt : now + 6 < at_
  · have hcs : csr = [] ∧ ls = [⟨1, 3, 4, now + 6⟩] := by
      have hnil : csr = [] := by
        cases csr with
        | nil => rfl
        | cons x r =>
          have hx : x = ⟨1, 3, 4, now + 6⟩ := List.mem_singleton.1 (hp.mem_iff.1 (by simp))
          have := hl2 x List.mem_cons_self
          rw [hx] at this
          exact absurd hlt (Int.not_lt.2 this)
      subst hnil
      exact ⟨rfl, List.perm_singleton.1 hp⟩
    obtain ⟨rfl, rfl⟩ := hcs
    rcases hcl with ⟨h, _⟩ | ⟨g, cap, rfl, hcap, hBg, hgl, hcell⟩
    · cases h
    · have c0 := hcell 0 (by simp) 0 _ rfl
      have c1 := hcell 0 (by simp) 1 _ rfl
      have c3 := hcell 0 (by simp) 3 _ rfl
      simp only [List.length_cons, List.length_nil, Nat.zero_mul, Nat.zero_add, List.getD_cons_zero] at c0 c1 c3 ⊢
      clear hp hl1 hl2 hcell
      go_wp2_with fail
      refine HTK.out.mono ?_
      rintro e w4 ⟨hb4, ⟨x, cs', _, _, hp4, _⟩ | ⟨_, rfl, _, hx4⟩⟩
      · have := hp4.length_eq
        simp at this
      · have d0 := hx4.cell_of c0
        have d1 := hx4.cell_of c1
        have d3 := hx4.cell_of c3
        have hg4 : g < w4.heap.size := Nat.lt_of_lt_of_le hgl hx4.size
        have HF := Lib.hid (HENDX.out w4 _ hb4 (ext_alloc w4 (.cells #[.int .i64 0, .int .i64 0, .int .i64 0, .int .i64 0] 30))).1
        clear hb4 hx4 c0 c1 c3 HTK HENDX HB3
        go_wp2
        go_ret
        exact ⟨rfl, HF.out⟩
  · have hcs : ls = [] ∧ csr = [⟨1, 3, 4, now + 6⟩] := by
      have hnil : ls = [] := by
        cases ls with
        | nil => rfl
        | cons x r =>
          have hx : x = ⟨1, 3, 4, now + 6⟩ := List.mem_singleton.1 (hp.mem_iff.1 (by simp))
          have := hl1 x List.mem_cons_self
          rw [hx] at this
          exact absurd this hlt
      subst hnil
      rw [List.append_nil] at hp
      exact ⟨rfl, List.perm_singleton.1 hp⟩
    obtain ⟨rfl, rfl⟩ := hcs
    have hv : ∃ a cap, v = .slice a 0 cap := by
      rcases hcl with ⟨_, h⟩ | ⟨g, cap, h, _⟩
      · exact ⟨_, _, h⟩
      · exact ⟨_, _, h⟩
    obtain ⟨va, vc, rfl⟩ := hv
    clear hp hl1 hl2 hcl
    go_wp2_with fail
    refine HTK.out.mono ?_
    rintro e w4 ⟨hb4, ⟨x, cs', _, _, hp4, rfl, _⟩ | ⟨hno, _⟩⟩
    · obtain rfl : x = ⟨1, 3, 4, now + 6⟩ := List.mem_singleton.1 (hp4.mem_iff.1 List.mem_cons_self)
      have HF := Lib.hid (HENDX.out w4 _ hb4 (ext_alloc w4 (.cells #[.int .i64 1, .int .i64 3, .int .i64 4, .int .i64 (now + 6)] 30))).1
      clear hb4 hp4 HTK HENDX HB3
      go_wp2
      go_ret
      exact ⟨rfl, HF.out⟩
    · exact absurd rfl (hno ⟨1, 3, 4, now + 6⟩ (by simp) rfl)
end Go.Proofs.Ytiiidbomfkjfgaa
