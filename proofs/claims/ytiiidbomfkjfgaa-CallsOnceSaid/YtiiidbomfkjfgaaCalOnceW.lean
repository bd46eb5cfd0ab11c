/- CallsOnce's function answers true. -/
import Derived.Test.YtiiidbomfkjfgaaCalLive
import Derived.Test.YtiiidbomfkjfgaaInts
namespace Go.Proofs.Ytiiidbomfkjfgaa
set_option maxRecDepth 20000
open Go.RowKit Go.Deep
set_option linter.unusedVariables false
theorem i64_and3 (n : Int) : bits .and .i64 n 3 = n % 4 := by
  have h24 : (BitVec.ofInt 64 3).toNat = 2 ^ 2 - 1 := by decide
  have key : (BitVec.ofInt 64 n &&& BitVec.ofInt 64 3).toNat = (n % ((2 ^ 64 : Nat) : Int)).toNat % 2 ^ 2 := by
    rw [BitVec.toNat_and, BitVec.toNat_ofInt, h24, Nat.and_two_pow_sub_one_eq_mod]
  show IntKind.i64.wrap ((BitVec.ofInt 64 n &&& BitVec.ofInt 64 3).toNat : Nat) = n % 4
  rw [key, IntKind.wrap_i64]
  omega
theorem in64_small {x : Int} (h : -100 ≤ x ∧ x ≤ 100) : In64 x := by constructor <;> omega
/-- The calls from tag k + 1 on are there. -/
def From1 (k n : Nat) (cs : List Cl) : Prop := ∀ j : Nat, k ≤ j → j < n → ∃ x ∈ cs, x.t = (j : Int) + 1 ∧ x.p = 7
theorem From1.less {k n : Nat} {cs cs' : List Cl} {x : Cl} (h : From1 k n cs) (hp : (x :: cs').Perm cs) (hx : x.t = (k : Int) + 1) : From1 (k + 1) n cs' := fun j h1 h2 => by
  obtain ⟨y, hy, e1, e2⟩ := h j (by omega) h2
  rcases List.mem_cons.1 (hp.mem_iff.2 hy) with rfl | hy'
  · rw [hx] at e1; omega
  · exact ⟨y, hy', e1, e2⟩
/-- Who is taken is not there any more. -/
theorem gone_tag {w : World} {c last : Nat} {cs cs' : List Cl} {x : Cl} (h : Cw w c last cs) (hp : (x :: cs').Perm cs) : ∀ y ∈ cs', y.t ≠ x.t := fun y hy e => by
  obtain ⟨h1, h2, _⟩ := CsAt.facts h
  have h3 := (hp.nodup_iff).2 h1
  rw [List.nodup_cons] at h3
  have h4 := h2 y (hp.mem_iff.1 (List.mem_cons_of_mem _ hy)) x (hp.mem_iff.1 List.mem_cons_self) e
  exact h3.1 (h4 ▸ hy)
set_option maxHeartbeats 8000000 in
theorem CallsOnce_walk (n : Int) (v : Value) (xs : List Int) (w : World) (hn0 : (Lit.int .i64 n).wf = true) (hv : Ints w v xs ∧ ∀ y ∈ xs, -9223372036854775808 ≤ y ∧ y ≤ 9223372036854775807) :
    Calls Try.prog 3 #[.int .i64 n, v] w fun e w' => e = .returned (.bool true) ∧ Below w.heap.size w w' := by
  have hn := wf_in64 hn0
  clear hn0
  obtain ⟨va, vc, rfl, hvc, _⟩ := hv.1.slice
  obtain ⟨xn, hxn⟩ : ∃ xn, xn = xs.length := ⟨_, rfl⟩
  rw [← hxn] at hv hvc ⊢
  have HC := Lib.hid hv.1.cell.2
  clear hv hxn
  go_enter Try.func3, Try.ntmps3
  go_wp2_with fail
  refine (alive21_any w).mono ?_
  rintro e w0 ⟨rfl, hx0⟩
  have HX0 := Lib.hid hx0
  clear hx0
  by_cases h1 : n < 0
  · go_wp2
    go_ret
    exact ⟨rfl, Gr.below_of HX0.out⟩
  by_cases h2 : 50 < n
  · go_wp2
    go_ret
    exact ⟨rfl, Gr.below_of HX0.out⟩
  by_cases h3 : (xn : Int) < n
  · go_wp2
    go_ret
    exact ⟨rfl, Gr.below_of HX0.out⟩
  obtain ⟨m, rfl⟩ : ∃ m : Nat, n = (m : Int) := ⟨n.toNat, by omega⟩
  have hm50 : m ≤ 50 := by omega
  have hmx : m ≤ xn := by omega
  have HNEW := Lib.hid (Cw.new w0)
  have HB0 : Hid (∀ o, Below w.heap.size w (w0.alloc o)) := fun o => (Gr.below_of HX0.out).trans ((Gr.below_of (ext_alloc _ _)).mono HX0.out.size)
  have HWC : Hid (w.heap.size ≤ w0.heap.size) := HX0.out.size
  clear hn h1 h2 h3
  have h3 : ¬ xn < m := by omega
  have h2 : ¬ 50 < m := by omega
  go_upto_region 5 with fail
  have HB1 := Lib.hid (HB0.out (.cells #[.pointer none] 27))
  generalize hw1 : World.alloc w0 _ = w1 at *
  generalize w0.heap.size = c at *
  clear hw1 HB0 HX0
  have HCELL : Hid (∀ wz k, Below w.heap.size w wz → k < xn → ∃ b off x, va = some ⟨b, off, none⟩ ∧ wz.cell? ⟨b, off + k, none⟩ = some (.int .i64 x)) := fun wz k hb hk => by
    obtain ⟨b, off, e, hbl, hcell⟩ := HC.out (by omega)
    exact ⟨b, off, _, e, (World.cell?_of_block (w := w) (w' := wz) (a := ⟨b, off + k, none⟩) (hb.block b hbl)).trans (hcell k hk)⟩
  clear HC
  go_wp2_with fail
  go_loopw [7] (fun s7 wr => ∃ (k : Nat) (cs : List Cl), k ≤ m ∧ s7 = .int .i64 k ∧ Hid (Cw wr c k cs) ∧ Hid (Below w.heap.size w wr) ∧ Hid (cs.length = k ∧ From1 0 k cs ∧ ∀ x ∈ cs, x.u < (m : Int) + 100)) (fun s7 _ => m - (intOf s7).toNat)
  case atStart => exact ⟨0, [], Nat.zero_le _, rfl, HNEW.out, HB1.out, rfl, fun j h1 h2 => absurd h2 (Nat.not_lt_zero _), fun x hx => (nomatch hx)⟩
  case round =>
    obtain ⟨k, cs, hkm, rfl, HCW, HB, HCS⟩ := hrel
    by_cases hk : k < m
    · obtain ⟨b, off, x, hva, hc⟩ := HCELL.out wr k HB.out (by omega)
      subst hva
      have hbits := i64_and3 x
      have HAD := Lib.hid (cw_add c k cs (x % 4) 7 k wr HCW.out (by omega) (in64_small (by omega)) (in64_small (by omega)))
      have hkx : k < xn := by omega
      have HUN : Hid (untilOf (k : Int) < (m : Int) + 100) := by show _ < _; unfold untilOf; omega
      clear HCW
      go_wp2_with fail
      refine HAD.out.mono ?_
      rintro e w2 ⟨rfl, hb2, hc2⟩
      have HC2 := Lib.hid hc2
      have HB2 := Lib.hid (HB.out.trans (hb2.mono HWC.out))
      have HCS2 : Hid ((cs ++ [(⟨(k : Int) + 1, x % 4, 7, untilOf (k : Int)⟩ : Cl)]).length = k + 1 ∧ From1 0 (k + 1) (cs ++ [(⟨(k : Int) + 1, x % 4, 7, untilOf (k : Int)⟩ : Cl)]) ∧ ∀ y ∈ cs ++ [(⟨(k : Int) + 1, x % 4, 7, untilOf (k : Int)⟩ : Cl)], y.u < (m : Int) + 100) := by
        obtain ⟨a1, a2, a3⟩ := HCS.out
        refine ⟨by rw [List.length_append, a1]; rfl, fun j h1 h2 => ?_, fun y hy => ?_⟩
        · by_cases hj : j < k
          · obtain ⟨y, hy, e1, e2⟩ := a2 j h1 hj
            exact ⟨y, List.mem_append_left _ hy, e1, e2⟩
          · have hjk : j = k := by omega
            rw [hjk]
            exact ⟨(⟨(k : Int) + 1, x % 4, 7, untilOf (k : Int)⟩ : Cl), List.mem_append_right _ (List.mem_singleton.2 rfl), rfl, rfl⟩
        · rcases List.mem_append.1 hy with hy | hy
          · exact a3 y hy
          · rw [List.mem_singleton.1 hy]; exact HUN.out
      clear hb2 hc2 HAD HCS HB HUN hc hbits
      go_wp2
      go_roundw
      case rel => exact ⟨k + 1, _, by omega, by go_num, HC2.out, HB2.out, HCS2.out⟩
      case measure => simp [intOf]; omega
    · obtain rfl : m = k := by omega
      clear HNEW HB1 hk hkm
      obtain ⟨wo, hwo⟩ : ∃ wo, wo = wr := ⟨_, rfl⟩
      subst hwo
      go_wp2_with fail
      go_loopw [8, 9] (fun s8 s9 wr => ∃ (k : Nat) (cs : List Cl), k ≤ m ∧ s9 = .int .i64 k ∧ s8 = .int .i64 ((cs.length : Nat) : Int) ∧ Hid (Cw wr c m cs) ∧ Hid (Below w.heap.size w wr) ∧ Hid (From1 k m cs ∧ ∀ x ∈ cs, x.u < (m : Int) + 100)) (fun _ s9 _ => m - (intOf s9).toNat)
      case atStart => exact ⟨0, cs, Nat.zero_le _, rfl, by rw [HCS.out.1], HCW.out, HB.out, HCS.out.2⟩
      case round =>
        clear HCW HB HCS
        obtain ⟨k, cs2, hkm, rfl, rfl, HCW, HB, HCS⟩ := hrel
        by_cases hk : k < m
        · obtain ⟨b, off, x, hva, hc⟩ := HCELL.out wr k HB.out (by omega)
          subst hva
          have hkx : k < xn := by omega
          obtain ⟨z, hz⟩ : ∃ z, bits .and .i64 x 4 = z := ⟨_, rfl⟩
          have hT64 : In64 ((k : Int) + 1) := in64_small (by omega)
          have HT64 := Lib.hid hT64
          clear hT64
          by_cases h0 : z = 0
          · subst h0
            have HTK := Lib.hid (cw_take c m cs2 ((k : Int) + 1) 7 wr HCW.out HT64.out)
            obtain ⟨y0, hy0, hy1, hy2⟩ := HCS.out.1 k (Nat.le_refl _) hk
            have HY0 : Hid (y0 ∈ cs2 ∧ y0.t = (k : Int) + 1 ∧ y0.p = 7) := ⟨hy0, hy1, hy2⟩
            clear hy0 hy1 hy2
            go_wp2_with fail
            refine HTK.out.mono ?_
            rintro e w2 ⟨hb2, ⟨y, cs3, hyt, hyp, hp3, rfl, hc3⟩ | ⟨hno, _⟩⟩
            · have HNO : Hid (∀ u ∈ cs3, u.t ≠ (k : Int) + 1) := fun u hu e => gone_tag HCW.out hp3 u hu (e.trans hyt.symm)
              have HF3 : Hid (From1 (k + 1) m cs3 ∧ ∀ u ∈ cs3, u.u < (m : Int) + 100) := ⟨HCS.out.1.less hp3 hyt, fun u hu => HCS.out.2 u (hp3.mem_iff.1 (List.mem_cons_of_mem _ hu))⟩
              have hlen : cs2.length = cs3.length + 1 := by rw [← hp3.length_eq, List.length_cons]
              have HC2 := Lib.hid hc3
              have HB2 := Lib.hid (HB.out.trans (hb2.mono HWC.out))
              rw [hlen]
              obtain ⟨l3, hl3⟩ : ∃ l3, cs3.length = l3 := ⟨_, rfl⟩
              have HL3 := Lib.hid hl3
              rw [hl3]
              have e1 : (((l3 + 1 : Nat) : Int)) = (l3 : Int) + 1 := by omega
              rw [e1]
              have hl8 : l3 ≤ 8000 := by
                have := CsAt.facts hc3
                omega
              clear hb2 hc3 hp3 hyt hyp HTK HCW HCS HB hlen hl3 e1 HY0 hc hz
              go_wp2_with fail
              generalize hw3 : World.alloc w2 _ = w3
              have HC3 : Hid (Cw w3 c m cs3) := by rw [← hw3]; exact HC2.out.ext (ext_alloc _ _)
              have HB3 : Hid (Below w.heap.size w w3) := by rw [← hw3]; exact HB2.out.trans ((Gr.below_of (ext_alloc _ _)).mono HB2.out.size)
              clear hw3 HC2 HB2
              have HTK := Lib.hid (cw_take c m cs3 ((k : Int) + 1) 7 w3 HC3.out HT64.out)
              refine HTK.out.mono ?_
              rintro e w4 ⟨hb4, ⟨y', cs4, h5, _, h6, _⟩ | ⟨_, rfl, hc4, hx4⟩⟩
              · exact absurd h5 (HNO.out y' (h6.mem_iff.1 List.mem_cons_self))
              · have HC4 := Lib.hid hc4
                have HB4 := Lib.hid (HB3.out.trans ((Gr.below_of hx4).mono HB3.out.size))
                clear hb4 hc4 hx4 HC3 HB3 HTK
                go_wp2_with fail
                generalize hw5 : World.alloc w4 _ = w5
                have HC5 : Hid (Cw w5 c m cs3) := by rw [← hw5]; exact HC4.out.ext (ext_alloc _ _)
                have HB5 : Hid (Below w.heap.size w w5) := by rw [← hw5]; exact HB4.out.trans ((Gr.below_of (ext_alloc _ _)).mono HB4.out.size)
                clear hw5 HC4 HB4
                have HTK := Lib.hid (cw_take c m cs3 ((k : Int) + 1) 8 w5 HC5.out HT64.out)
                refine HTK.out.mono ?_
                rintro e w6 ⟨hb6, ⟨y', cs4, h5, _, h6, _⟩ | ⟨_, rfl, hc6, hx6⟩⟩
                · exact absurd h5 (HNO.out y' (h6.mem_iff.1 List.mem_cons_self))
                · have HC6 : Hid (∀ o, Cw (w6.alloc o) c m cs3) := fun o => hc6.ext (ext_alloc _ _)
                  have HB6 : Hid (∀ o, Below w.heap.size w (w6.alloc o)) := fun o => by
                    have h7 := HB5.out.trans ((Gr.below_of hx6).mono HB5.out.size)
                    exact h7.trans ((Gr.below_of (ext_alloc _ _)).mono h7.size)
                  clear hb6 hc6 hx6 HC5 HB5 HTK
                  go_wp2
                  go_roundw
                  case rel => exact ⟨k + 1, cs3, by omega, by go_num, by rw [HL3.out], HC6.out _, HB6.out _, HF3.out⟩
                  case measure => simp [intOf]; omega
            · exact absurd HY0.out.2.2 (hno y0 HY0.out.1 HY0.out.2.1)
          · have hz0 : (z == 0) = false := by simpa using h0
            have HFN : Hid (From1 (k + 1) m cs2) := fun j h1 h2 => HCS.out.1 j (by omega) h2
            obtain ⟨l2, hl2⟩ : ∃ l2, cs2.length = l2 := ⟨_, rfl⟩
            have HL2 := Lib.hid hl2
            rw [hl2]
            clear hl2
            go_wp2
            go_roundw
            case rel => exact ⟨k + 1, cs2, by omega, by go_num, by rw [HL2.out], HCW.out, HB.out, HFN.out, HCS.out.2⟩
            case measure => simp [intOf]; omega
        · have HLN := Lib.hid (cw_len c m cs2 wr HCW.out)
          have HLT := Lib.hid (cw_late c m cs2 ((m : Int) + 100) wr HCW.out)
          obtain ⟨l2, hl2⟩ : ∃ l2, cs2.length = l2 := ⟨_, rfl⟩
          have HL2 := Lib.hid hl2
          rw [hl2] at HLN ⊢
          clear hl2
          go_wp2_with fail
          refine HLN.out.mono ?_
          rintro e w2 ⟨rfl, rfl⟩
          clear HLN
          go_wp2_with fail
          refine HLT.out.mono ?_
          rintro e w3 ⟨hb3, v3, ls, csr, rfl, hcl, hp, hl1, hl2', hc3⟩
          have hcs : csr = [] := by
            cases csr with
            | nil => rfl
            | cons x r =>
              have h5 := HCS.out.2 x (hp.mem_iff.1 (by simp))
              have h6 := hl2' x List.mem_cons_self
              exact absurd h5 (Int.not_lt.2 h6)
          subst hcs
          have hlen : ls.length = l2 := by rw [← HL2.out]; exact hp.length_eq
          have hv : ∃ a cap, v3 = .slice a l2 cap := by
            rcases hcl with ⟨h, h'⟩ | ⟨g, cap, h, _⟩
            · rw [h] at hlen; exact ⟨_, _, by rw [h', ← hlen]; rfl⟩
            · exact ⟨_, _, by rw [h, hlen]⟩
          obtain ⟨a3, cap3, rfl⟩ := hv
          have HB3 := Lib.hid (HB.out.trans (hb3.mono HWC.out))
          have HLN3 := Lib.hid (cw_len c m [] w3 hc3)
          have HLT3 := Lib.hid (cw_late c m [] ((m : Int) + 100) w3 hc3)
          simp only [List.length_nil, Int.cast_ofNat_Int] at HLN3
          clear hb3 hcl hp hl1 hl2' hc3 hlen HLT HB HCS HCW
          go_wp2_with fail
          refine HLN3.out.mono ?_
          rintro e w4 ⟨rfl, rfl⟩
          clear HLN3
          go_wp2_with fail
          refine HLT3.out.mono ?_
          rintro e w5 ⟨hb5, v5, ls5, csr5, rfl, hcl5, hp5, _, _, _⟩
          have hn5 : ls5 = [] := (List.append_eq_nil_iff.1 (List.perm_nil.1 hp5)).2
          have hv5 : ∃ a cap, v5 = .slice a 0 cap := by
            rcases hcl5 with ⟨h, h'⟩ | ⟨g, cap, h, _⟩
            · exact ⟨_, _, h'⟩
            · rw [hn5] at h; exact ⟨_, _, h⟩
          obtain ⟨a5, cap5, rfl⟩ := hv5
          have HB5 := Lib.hid (HB3.out.trans (hb5.mono HWC.out))
          clear hb5 hcl5 hp5 hn5 HLT3 HB3
          go_wp2
          go_ret
          exact ⟨rfl, HB5.out⟩
end Go.Proofs.Ytiiidbomfkjfgaa
