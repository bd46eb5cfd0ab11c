/- RecordTorn's function answers true. Written by gen_rlaw.py. -/
import Derived.Test.YtdbdnfjgmdkneaaRecLive
namespace Go.Proofs.Ytdbdnfjgmdkneaa
set_option maxRecDepth 20000
open Go.RowKit Go.Deep
set_option linter.unusedVariables false
theorem torn_take {r r' : Rc} {er m : Nat} (h : KM.Right r) (hm : m < (KM.bytes r).length) (hi : RecIs ((KM.bytes r).take m) r' er) : er = 2 := by
  rcases hi with ⟨_, h2, h3⟩ | ⟨h1, _, _⟩
  · have := KM.bytes_prefix h h2 ((KM.bytes r).drop m) (by rw [h3, List.take_append_drop])
    have := congrArg List.length this
    rw [List.length_drop, List.length_nil] at this
    omega
  · exact h1
theorem torn_more {r r' : Rc} {er : Nat} (h : KM.Right r) (hi : RecIs (KM.bytes r ++ [0]) r' er) : er = 2 := by
  rcases hi with ⟨_, h2, h3⟩ | ⟨h1, _, _⟩
  · have := KM.bytes_prefix h2 h [0] h3.symm
    cases this
  · exact h1
set_option maxHeartbeats 4000000 in
theorem rtorn_walk (r : Rc) (a : Option Addr) (c : Nat) (n : Int) (w : World) (hu : U8s w (.slice a r.d.length c) r.d) (hn : n ≤ 9223372036854775807) :
    Calls Try.prog 4 #[r.val (.slice a r.d.length c), .int .i64 n] w fun e w' => e = .returned (.bool true) ∧ w.Extends w' := by
  have HA := Lib.hid alive14_any
  obtain ⟨ok, bs, hbl, hok, hasked⟩ := asked14_rec r hu.lt
  have hlt := hasked.lt
  have HU := Lib.hid hu
  have HRR : Hid (∀ w' a c, Calls Try.prog 14 #[r.val (.slice a r.d.length c)] w' fun e w2 => e = .returned (.bool ok) ∧ w'.Extends w2) := hasked.rr
  have HBP : Hid (∀ w' a c, U8s w' (.slice a r.d.length c) r.d → Calls Try.prog 15 #[r.val (.slice a r.d.length c)] w' (MadeBytes w' bs)) := hasked.bp
  obtain ⟨dl, hdl⟩ : ∃ dl, dl = r.d.length := ⟨_, rfl⟩
  rw [← hdl] at HU HRR HBP ⊢
  clear hdl hasked hu
  show Calls Try.prog 4 #[.agg #[.int .i64 r.p, .int .i64 r.n, .int .i64 r.b, .int .i64 r.s, .int .i64 r.m, .int .i64 r.k, .int .i64 r.e, .bool r.g, .int .i64 r.u, .slice a dl c], .int .i64 n] w _
  have hc : ok = false ∨ (ok = true ∧ n < 0) ∨ (ok = true ∧ ∃ N : Nat, n = N ∧ N < 9223372036854775808) := by
    cases ok
    · exact .inl rfl
    · by_cases h : n < 0
      · exact .inr (.inl ⟨rfl, h⟩)
      · exact .inr (.inr ⟨rfl, n.toNat, by omega, by omega⟩)
  rcases hc with rfl | ⟨rfl, h1⟩ | ⟨rfl, N, rfl, h1⟩
  all_goals
    go_enter Try.func4, Try.ntmps4
    go_upto_region 1 with fail
    generalize hw : World.alloc w _ = w0
    have hx : w.Extends w0 := by subst hw; exact ext_alloc _ _
    have hb : R10 w0 w.heap.size [.int .i64 r.p, .int .i64 r.n, .int .i64 r.b, .int .i64 r.s, .int .i64 r.m, .int .i64 r.k, .int .i64 r.e, .bool r.g, .int .i64 r.u, .slice a dl c] := by subst hw; exact heap_alloc_new _ _
    obtain ⟨bx, hbn⟩ : ∃ b, b = w.heap.size := ⟨_, rfl⟩
    rw [← hbn] at hb ⊢
    clear hw hbn
    have HX0 := Lib.hid hx
    have HB0 := Lib.hid hb
    clear hx hb
    go_wp2_with fail
    refine (HA.out w0).mono ?_
    rintro e w1 ⟨rfl, hx⟩
    have HX1 := Lib.hid (Gr.ext_trans HX0.out hx)
    have HB1 := Lib.hid (HB0.out.ext hx)
    clear hx HX0 HB0
    have blt := HB1.out.lt
    have q0 := HB1.out.cell 0 _ rfl
    have q1 := HB1.out.cell 1 _ rfl
    have q2 := HB1.out.cell 2 _ rfl
    have q3 := HB1.out.cell 3 _ rfl
    have q4 := HB1.out.cell 4 _ rfl
    have q5 := HB1.out.cell 5 _ rfl
    have q6 := HB1.out.cell 6 _ rfl
    have q7 := HB1.out.cell 7 _ rfl
    have q8 := HB1.out.cell 8 _ rfl
    have q9 := HB1.out.cell 9 _ rfl
    go_wp2_with fail
    refine (HRR.out w1 a c).mono ?_
    rintro e w2 ⟨rfl, hx⟩
    have HX2 := Lib.hid (Gr.ext_trans HX1.out hx)
    have HB2 := Lib.hid (HB1.out.ext hx)
    clear hx blt HX1 HB1 HRR
    clear q0 q1 q2 q3 q4 q5 q6 q7 q8 q9
  · go_wp2
    go_ret
    exact ⟨rfl, HX2.out⟩
  · go_wp2
    go_ret
    exact ⟨rfl, HX2.out⟩
  · obtain ⟨hR, hbs⟩ : KM.Right r ∧ bs = KM.bytes r := by
      rcases hok with ⟨_, h2, h3⟩ | ⟨h2, _⟩
      · exact ⟨h2, h3⟩
      · cases h2
    clear hok
    have hpos := KM.bytes_pos r
    rw [← hbs] at hpos
    have hml : N % bs.length < bs.length := Nat.mod_lt _ (by omega)
    obtain ⟨m, hm⟩ : ∃ m, m = N % bs.length := ⟨_, rfl⟩
    rw [← hm] at hml
    obtain ⟨r1, er1, hi1, hr1, _⟩ := asked14_read (bs.take m) (fun x hx => hlt x (List.mem_of_mem_take hx)) (by rw [List.length_take]; omega)
    obtain rfl : er1 = 2 := by subst hbs; exact torn_take hR hml hi1
    obtain ⟨r2, er2, hi2, hr2, _⟩ := asked14_read (bs ++ [0]) (fun x hx => by rcases List.mem_append.1 hx with h | h; exact hlt x h; simp at h; omega) (by rw [List.length_append]; simp; omega)
    obtain rfl : er2 = 2 := by subst hbs; exact torn_more hR hi2
    have HRD1 := Lib.hid hr1
    have HRD2 := Lib.hid hr2
    have HLT := Lib.hid hlt
    clear hi1 hi2 hr1 hr2 hR hbs hlt
    obtain ⟨iu, hiu, hz0, hz1, hz2⟩ := info_parts byteinfo
    have HI := Lib.hid hiu
    have HZ0 := Lib.hid hz0
    have HZ1 := Lib.hid hz1
    have HZ2 := Lib.hid hz2
    clear hiu hz0 hz1 hz2
    obtain ⟨bl, hbn⟩ : ∃ bl, bl = bs.length := ⟨_, rfl⟩
    rw [← hbn] at hbl hpos hml hm
    have HBN := Lib.hid hbn
    clear hbn
    obtain ⟨dl1, hdl1⟩ : ∃ dl1, dl1 = r1.d.length := ⟨_, rfl⟩
    obtain ⟨dl2, hdl2⟩ : ∃ dl2, dl2 = r2.d.length := ⟨_, rfl⟩
    have HDL1 := Lib.hid hdl1
    have HDL2 := Lib.hid hdl2
    clear hdl1 hdl2
    have hb0 : ((bl : Int) == 0) = false := by simp; omega
    have HM := Lib.hid hm
    clear hm
    have blt := HB2.out.lt
    have q0 := HB2.out.cell 0 _ rfl
    have q1 := HB2.out.cell 1 _ rfl
    have q2 := HB2.out.cell 2 _ rfl
    have q3 := HB2.out.cell 3 _ rfl
    have q4 := HB2.out.cell 4 _ rfl
    have q5 := HB2.out.cell 5 _ rfl
    have q6 := HB2.out.cell 6 _ rfl
    have q7 := HB2.out.cell 7 _ rfl
    have q8 := HB2.out.cell 8 _ rfl
    have q9 := HB2.out.cell 9 _ rfl
    go_wp2_with fail
    refine (HBP.out w2 a c (HU.out.ext HX2.out)).mono ?_
    rintro e w3 ⟨x, rfl, hxs, hx⟩
    obtain ⟨xa, xc, rfl, _, _⟩ := hxs.slice
    rw [← HBN.out] at hxs ⊢
    have HX3 := Lib.hid (Gr.ext_trans HX2.out hx)
    have HXS3 := Lib.hid hxs
    clear hx blt hxs HX2 HB2 HBP
    clear q0 q1 q2 q3 q4 q5 q6 q7 q8 q9
    obtain ⟨sa, sc, hsl, hsu⟩ := cut_to HXS3.out m (by have := HBN.out; omega)
    have HSL := Lib.hid hsl
    have HSU := Lib.hid hsu
    clear hsl hsu
    go_wp2_with (refine wpList_slice rfl 26 (.tmp 30) none (some (.tmp 34)) rfl elemBytes _ _ _ rfl rfl rfl (by have h := HSL.out; rw [HM.out] at h; first | exact h _ | (simp; exact h _)) ?_)
    go_wp2_with fail
    refine (HRD1.out _ w3 (by have h := HSU.out; rw [HM.out] at h ⊢; exact h)).mono ?_
    rintro e w4 ⟨ya, yc, rfl, hy, hx⟩
    rw [← HDL1.out]
    have HX4 := Lib.hid (Gr.ext_trans HX3.out hx)
    have HXS4 := Lib.hid (HXS3.out.ext hx)
    clear hx hy HX3 HXS3 HRD1 HSL HSU hb0
    simp only [Rc.val]
    go_wp2_with (at_builtin; refine wpList_append_own_src _ rfl _ _ 26 26 rfl w4.heap.size 5 iu (.int .u8 0) 1 1 Try.underlying26 HI.out HZ0.out HZ1.out HZ2.out rfl (.slice none 0 0) 0 [] rfl (World.ownsRow_nil _ _ _ _) _ bl (u8vs bs) rfl (by have h := HXS4.out.ext (ext_alloc w4 (.cells #[.int .i64 r1.p, .int .i64 r1.n, .int .i64 r1.b, .int .i64 r1.s, .int .i64 r1.m, .int .i64 r1.k, .int .i64 r1.e, .bool r1.g, .int .i64 r1.u, .slice ya dl1 yc] 28)); rw [HBN.out] at h ⊢; exact h.src Try.underlying26) (by unfold maxLen; omega) (by omega) (by simp) ?_)
    intro v9 w9 ho9 hg9 _
    obtain ⟨a9, c9, rfl⟩ := owns_slice ho9
    have hx : w4.Extends w9 := Gr.ext_trans (ext_alloc _ _) (ext_below ⟨hg9.os, hg9.tape, hg9.output, hg9.size, fun i hi => hg9.block i hi (by simp [Value.ownBlock])⟩ rfl)
    have HX9 := Lib.hid (Gr.ext_trans HX4.out hx)
    have HO9 := Lib.hid ho9
    have HNE : Hid (∀ x, (Value.slice a9 bl c9).ownBlock = some x → w4.heap.size ≤ x) := fun x hx => (HO9.out.lt x hx).1
    have HS9 : Hid (w4.heap.size ≤ w9.heap.size) := hx.size
    have HX49 := Lib.hid hx
    clear ho9 hg9 hx HXS4
    have hs9 := HS9.out
    go_wp2_with (at_builtin; refine wpList_append_own_src _ rfl _ _ 26 26 rfl w4.heap.size 5 iu (.int .u8 0) 1 1 Try.underlying26 HI.out HZ0.out HZ1.out HZ2.out rfl _ bl (u8vs bs) rfl (HO9.out.alloc _) _ 1 [.int .u8 0] rfl (src_one Try.underlying26 _ _ rfl rfl) (by unfold maxLen; omega) (by omega) (by simp; omega) ?_)
    intro v8 w8 ho8 hg8 _
    obtain ⟨a8, c8, rfl⟩ := owns_slice ho8
    have HX8 := Lib.hid (ext_own (Gr.ext_trans HX9.out (ext_alloc _ _)) hg8 (fun x hx => Nat.le_trans (Nat.le_trans HX4.out.size (Nat.le_refl _)) (HNE.out x hx)))
    have HU8 : Hid (U8s w8 (.slice a8 (bl + 1) c8) (bs ++ [0])) := by
      have h := ho8
      rw [show u8vs bs ++ [Value.int .u8 0] = u8vs (bs ++ [0]) by simp [u8vs]] at h
      exact owns_u8s h (fun x hx => by rcases List.mem_append.1 hx with h | h; exact HLT.out x h; simp at h; omega)
    clear ho8 hg8 HX9 HX4 HO9 HNE HS9 HX49 hs9
    go_wp2_with fail
    refine (HRD2.out _ w8 HU8.out).mono ?_
    rintro e w10 ⟨za, zc, rfl, hz, hx⟩
    rw [← HDL2.out]
    have HX10 := Lib.hid (Gr.ext_trans HX8.out hx)
    clear hx hz HX8 HU8 HRD2
    simp only [Rc.val]
    go_wp2_with fail
    generalize hw : World.alloc w10 _ = w11
    have hx : w10.Extends w11 := by subst hw; exact ext_alloc _ _
    have HX11 := Lib.hid (Gr.ext_trans HX10.out hx)
    clear hw hx HX10
    refine (num14_any _ w11).mono ?_
    rintro e w' ⟨rfl, rfl⟩
    go_wp2_with fail
    refine (num14_any _ w11).mono ?_
    rintro e w' ⟨rfl, rfl⟩
    go_wp2
    go_ret
    exact ⟨by rfl, HX11.out⟩
theorem RecordTorn_walk (r : Rc) (a : Option Addr) (c : Nat) (n : Int) (w : World) (hu : U8s w (.slice a r.d.length c) r.d) (hn : (Lit.int .i64 n).wf = true) :
    Calls Try.prog 4 #[r.val (.slice a r.d.length c), .int .i64 n] w fun e w' => e = .returned (.bool true) ∧ Below w.heap.size w w' :=
  (rtorn_walk r a c n w hu (by simp [Lit.wf, IntKind.min, IntKind.max, IntKind.signed, IntKind.bits] at hn; omega)).mono fun _ _ h => ⟨h.1, Gr.below_of h.2⟩
end Go.Proofs.Ytdbdnfjgmdkneaa
