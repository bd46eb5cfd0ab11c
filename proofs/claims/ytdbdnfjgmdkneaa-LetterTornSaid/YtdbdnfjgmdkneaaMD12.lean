/- In one text: LetRead, PutOwn, LetRefBytes, LetStore. -/
import Derived.WalkKit
import Derived.IntWalk
import Derived.Test.YtdbdnfjgmdkneaaMD2
import Derived.Test.YtdbdnfjgmdkneaaMD6
import Derived.Test.YtdbdnfjgmdkneaaMD9
import Derived.Test.YtdbdnfjgmdkneaaMD10
import Derived.Test.YtdbdnfjgmdkneaaMD11
namespace Go.Proofs.Ytdbdnfjgmdkneaa
set_option maxRecDepth 20000
open Go.RowKit Go.Deep
set_option linter.unusedVariables false
/-- What reading a letter answers. -/
def LROut (l : Lt) (er : Int) (w : World) (e : Ending) (w' : World) : Prop := ∃ vp vr, e = .returned (.tuple #[l.val vp vr, .int .i64 er]) ∧ LetV w' vp vr l ∧ w.Extends w'
theorem LetV.by8 {w w' : World} {b : Nat} {vp vr : Value} {l : Lt} {cs : List Value} (h : LetV w vp vr l) (hb : L8 w b cs) (hl : No8 cs) (hg : w.grownBy w' (some b)) (hp : vp.ownBlock ≠ some b) (hr : vr.ownBlock ≠ some b) : LetV w' vp vr l := by
  refine ⟨?_, ?_⟩
  · rcases h.1 with h1 | ⟨g, off, cap, rfl, h1, h2, h3, h4⟩
    · exact .inl h1
    · have hblk := hg.block g h3 hp
      refine .inr ⟨g, off, cap, rfl, h1, h2, Nat.lt_of_lt_of_le h3 hg.size, fun k hk => ?_⟩
      rw [World.cell?_of_block (w := w) (w' := w') (a := ⟨g, off + k, none⟩) hblk]
      exact h4 k hk
  · rcases h.2 with h1 | ⟨g, off, cap, rfl, h1, h2, h3, h4⟩
    · exact .inl h1
    · have hblk := hg.block g h3 hr
      refine .inr ⟨g, off, cap, rfl, h1, h2, Nat.lt_of_lt_of_le h3 hg.size, fun k hk => ?_⟩
      obtain ⟨a, c, h5, h6⟩ := h4 k hk
      refine ⟨a, c, fun i v hv => ?_, h6.beside hb hl hg⟩
      rw [World.cell?_of_block (w := w) (w' := w') (a := ⟨g, off + k * 10 + i, none⟩) hblk]
      exact h5 i v hv
set_option maxHeartbeats 4000000 in
theorem lread_is (v : Value) (xs : List Nat) (w : World) (hv : U8s w v xs) (hxs : xs.length ≤ 1000000000) (L : Lt) (er : Nat) (hi : LQ.Is xs L er) :
    Calls Try.prog 50 #[v] w (LROut L (er : Nat) w) := by
  have HLT : Hid (∀ x ∈ xs, x < 256) := hv.lt
  have HV := Lib.hid hv
  have HXS := Lib.hid hxs
  have HIS := Lib.hid hi
  obtain ⟨va, vc, rfl, _, _⟩ := hv.slice
  clear hv hxs hi
  obtain ⟨xl, hxl⟩ : ∃ xl, xl = xs.length := ⟨_, rfl⟩
  rw [← hxl] at HV ⊢
  have HOF : Hid (∀ w', w.Extends w' → Calls Try.prog 61 #[.slice va xl vc] w' fun e w2 => ∃ t, e = .returned (.pointer (some ⟨t, 0, none⟩)) ∧ CurAt 126 w2 t (xs, false) ∧ w'.Extends w2 ∧ w'.heap.size ≤ t) := fun w' hx => of_any _ xs w' (HV.out.ext hx)
  clear HV hxl
  go_enter Try.func50, Try.ntmps50
  go_wp2_with fail
  generalize hw1 : World.alloc w _ = w1
  have hx1 : w.Extends w1 := by subst hw1; exact ext_alloc _ _
  have ha : L8 w1 w.heap.size [.int .i64 0, .int .i64 0, .int .i64 0, .int .i64 0, .int .i64 0, .int .i64 0, .slice none 0 0, .slice none 0 0] := by subst hw1; exact heap_alloc_new _ _
  obtain ⟨b2, hb2⟩ : ∃ b, b = w.heap.size := ⟨_, rfl⟩
  rw [← hb2] at ha ⊢
  have HX1 := Lib.hid hx1
  have HA1 := Lib.hid ha
  have HB2 : Hid (w.heap.size ≤ b2) := Nat.le_of_eq hb2.symm
  clear hw1 hx1 ha hb2
  refine (HOF.out w1 HX1.out).mono ?_
  rintro e w2 ⟨t, rfl, hc, hx, ht⟩
  have HX2 := Lib.hid (Gr.ext_trans HX1.out hx)
  have HA2 := Lib.hid (HA1.out.ext hx)
  have HC2 := Lib.hid hc
  have HNE : Hid (b2 ≠ t ∧ w.heap.size ≤ t) := by have h1 := HA1.out.lt; have h2 := HX1.out.size; show _ ∧ _; omega
  clear hx hc ht HX1 HA1 HOF
  go_wp2_with fail
  refine (ltaken_any xs t w2 HC2.out HLT.out HXS.out).mono ?_
  rintro e w3 ⟨l, vp, vr, ok, rfl, hlv, hg, hok, hall, hnb⟩
  obtain ⟨pa, pc, ra, rc, rfl, rfl⟩ := hlv.parts
  have HX3 := Lib.hid (ext_own HX2.out hg (fun x hx => by have := Option.some.inj hx; have := HNE.out; omega))
  have HA3 := Lib.hid (HA2.out.kept hg HNE.out.1)
  have HLV3 := Lib.hid hlv
  have HOK := Lib.hid hok
  have HALL := Lib.hid hall
  have hnb1 := fun g h => hnb g (.inl h)
  have hnb2 := fun g h => hnb g (.inr h)
  have hbl2 := HA2.out.lt
  have hpm := hlv.1.len
  have hrm := hlv.2.len
  unfold maxLen at hpm hrm
  obtain ⟨np, hnp⟩ : ∃ np, np = l.ps.length := ⟨_, rfl⟩
  obtain ⟨nr, hnr⟩ : ∃ nr, nr = l.rs.length := ⟨_, rfl⟩
  rw [← hnp] at HLV3 hpm hnb1 ⊢
  rw [← hnr] at HLV3 hrm hnb2 ⊢
  have HPNE : Hid ((Value.slice pa np pc).ownBlock ≠ some b2) := fun e => by have := hnb1 b2 e; omega
  have HRNE : Hid ((Value.slice ra nr rc).ownBlock ≠ some b2) := fun e => by have := hnb2 b2 e; omega
  clear hnb hnb1 hnb2 hbl2 hlv hg hok hall hnp hnr HX2 HA2 HC2
  simp only [Lt.val]
  go_upto_region 2 with fail
  generalize hw4 : World.alloc w3 _ = w4
  have hx4 : w3.Extends w4 := by subst hw4; exact ext_alloc _ _
  have hd : L8 w4 w3.heap.size [.int .i64 l.k, .int .i64 l.f, .int .i64 l.t, .int .i64 l.g, .int .i64 l.p, .int .i64 l.n, .slice pa np pc, .slice ra nr rc] := by subst hw4; exact heap_alloc_new _ _
  have hbl3 := HA3.out.lt
  obtain ⟨b4, hb4⟩ : ∃ b, b = w3.heap.size := ⟨_, rfl⟩
  rw [← hb4] at hd ⊢
  have HX4 := Lib.hid (Gr.ext_trans HX3.out hx4)
  have HA4 := Lib.hid (HA3.out.ext hx4)
  have HLV4 := Lib.hid (HLV3.out.ext hx4)
  have HD4 := Lib.hid hd
  clear hw4 hx4 hd hbl3 hb4 HX3 HA3 HLV3
  cases ok with
  | false =>
    have hno : er = 2 ∧ L = LQ.zero := by
      rcases HIS.out with ⟨_, h2, h3⟩ | ⟨h1, h2, _⟩
      · have := (HALL.out L h2 h3).1; cases this
      · exact ⟨h1, h2⟩
    obtain ⟨rfl, rfl⟩ := hno
    have HBAD : Hid (∀ wf, w4.grownBy wf (some b2) → LROut LQ.zero ((2 : Nat) : Int) w (.returned (.tuple #[.agg #[.int .i64 0, .int .i64 0, .int .i64 0, .int .i64 0, .int .i64 0, .int .i64 0, .slice none 0 0, .slice none 0 0], .int .i64 2])) wf) := fun wf hg =>
      ⟨.slice none 0 0, .slice none 0 0, rfl, ⟨nil_ints _ _ _, Recs.nil _ _ _⟩, ext_own HX4.out hg (fun x hx => by have := Option.some.inj hx; have := HB2.out; omega)⟩
    clear HIS HALL HOK HD4 HLV4
    obtain ⟨t0, t1, t2, t3, t4, t5, t6, t7⟩ := HA4.out.all
    obtain ⟨f0, f1, f2, f3, f4, f5, f6, f7⟩ := HA4.out.still
    have hbl := HA4.out.lt
    go_wp2
    clear t0 t1 t2 t3 t4 t5 t6 t7 f0 f1 f2 f3 f4 f5 f6 f7 hbl
    obtain ⟨wf, hw⟩ : ∃ w', w' = (((((((w4.setCell ⟨b2, 0, none⟩ (.int .i64 0)).setCell ⟨b2, 1, none⟩ (.int .i64 0)).setCell ⟨b2, 2, none⟩ (.int .i64 0)).setCell ⟨b2, 3, none⟩ (.int .i64 0)).setCell ⟨b2, 4, none⟩ (.int .i64 0)).setCell ⟨b2, 5, none⟩ (.int .i64 0)).setCell ⟨b2, 6, none⟩ (.slice none 0 0)).setCell ⟨b2, 7, none⟩ (.slice none 0 0) := ⟨_, rfl⟩
    rw [← hw]
    obtain ⟨hg, haf⟩ := HA4.out.fill hw
    have HPF := Lib.hid (HBAD.out wf hg)
    clear hw hg
    obtain ⟨t0, t1, t2, t3, t4, t5, t6, t7⟩ := haf.all
    have hbl := haf.lt
    clear haf
    refine bodyPost_ret (by simp [results, Try.results50, go_sem, t0, t1, t2, t3, t4, t5, t6, t7]; try rfl) rfl ?_
    exact HPF.out
  | true =>
    have hbytes := HOK.out rfl
    have HRI := Lib.hid (lright_any l _ _ w4 HLV4.out)
    have HRI2 : Hid (Calls Try.prog 79 #[.agg #[.int .i64 l.k, .int .i64 l.f, .int .i64 l.t, .int .i64 l.g, .int .i64 l.p, .int .i64 l.n, .slice pa np pc, .slice ra nr rc]] w4 (TestOut (LQ.Right l) w4)) := HRI.out
    have HYES : Hid (LQ.Right l → er = 0 ∧ L = l) := fun h => by
      obtain ⟨e1, e2⟩ := LQ.is_uniq HIS.out (.inl ⟨rfl, h, hbytes⟩)
      exact ⟨e2, e1⟩
    have HNO : Hid (¬ LQ.Right l → er = 2 ∧ L = LQ.zero) := fun h => by
      rcases HIS.out with ⟨_, h2, h3⟩ | ⟨h1, h2, _⟩
      · have := (HALL.out L h2 h3).2; exact absurd (this ▸ h2) h
      · exact ⟨h1, h2⟩
    clear HRI HIS HALL HOK hbytes
    obtain ⟨d0, d1, d2, d3, d4, d5, d6, d7⟩ := HD4.out.all
    have hdl := HD4.out.lt
    go_wp2_with fail
    clear d0 d1 d2 d3 d4 d5 d6 d7 hdl
    refine HRI2.out.mono ?_
    rintro e w6 ⟨x, rfl, hx, hx6⟩
    have HX6 := Lib.hid (Gr.ext_trans HX4.out hx6)
    have HA6 := Lib.hid (HA4.out.ext hx6)
    have HLV6 := Lib.hid (HLV4.out.ext hx6)
    have HD6 := Lib.hid (HD4.out.ext hx6)
    have HXR := Lib.hid hx
    clear hx hx6 HX4 HA4 HLV4 HD4 HRI2
    cases x with
    | false =>
      have hno := HNO.out (fun h => by have := HXR.out.2 h; cases this)
      obtain ⟨rfl, rfl⟩ := hno
      have HBAD : Hid (∀ wf, w6.grownBy wf (some b2) → LROut LQ.zero ((2 : Nat) : Int) w (.returned (.tuple #[.agg #[.int .i64 0, .int .i64 0, .int .i64 0, .int .i64 0, .int .i64 0, .int .i64 0, .slice none 0 0, .slice none 0 0], .int .i64 2])) wf) := fun wf hg =>
        ⟨.slice none 0 0, .slice none 0 0, rfl, ⟨nil_ints _ _ _, Recs.nil _ _ _⟩, ext_own HX6.out hg (fun x hx => by have := Option.some.inj hx; have := HB2.out; omega)⟩
      clear HYES HNO HXR HD6 HLV6
      obtain ⟨t0, t1, t2, t3, t4, t5, t6, t7⟩ := HA6.out.all
      obtain ⟨f0, f1, f2, f3, f4, f5, f6, f7⟩ := HA6.out.still
      have hbl := HA6.out.lt
      go_wp2
      clear t0 t1 t2 t3 t4 t5 t6 t7 f0 f1 f2 f3 f4 f5 f6 f7 hbl
      obtain ⟨wf, hw⟩ : ∃ w', w' = (((((((w6.setCell ⟨b2, 0, none⟩ (.int .i64 0)).setCell ⟨b2, 1, none⟩ (.int .i64 0)).setCell ⟨b2, 2, none⟩ (.int .i64 0)).setCell ⟨b2, 3, none⟩ (.int .i64 0)).setCell ⟨b2, 4, none⟩ (.int .i64 0)).setCell ⟨b2, 5, none⟩ (.int .i64 0)).setCell ⟨b2, 6, none⟩ (.slice none 0 0)).setCell ⟨b2, 7, none⟩ (.slice none 0 0) := ⟨_, rfl⟩
      rw [← hw]
      obtain ⟨hg, haf⟩ := HA6.out.fill hw
      have HPF := Lib.hid (HBAD.out wf hg)
      clear hw hg
      obtain ⟨t0, t1, t2, t3, t4, t5, t6, t7⟩ := haf.all
      have hbl := haf.lt
      clear haf
      refine bodyPost_ret (by simp [results, Try.results50, go_sem, t0, t1, t2, t3, t4, t5, t6, t7]; try rfl) rfl ?_
      exact HPF.out
    | true =>
      obtain ⟨rfl, rfl⟩ := HYES.out (HXR.out.1 rfl)
      have HGOOD : Hid (∀ wf, w6.grownBy wf (some b2) → LROut L ((0 : Nat) : Int) w (.returned (.tuple #[.agg #[.int .i64 L.k, .int .i64 L.f, .int .i64 L.t, .int .i64 L.g, .int .i64 L.p, .int .i64 L.n, .slice pa np pc, .slice ra nr rc], .int .i64 0])) wf) := fun wf hg =>
        ⟨_, _, rfl, HLV6.out.by8 HA6.out (by intro y hy n e; subst e; simp at hy) hg HPNE.out HRNE.out, ext_own HX6.out hg (fun x hx => by have := Option.some.inj hx; have := HB2.out; omega)⟩
      clear HYES HNO HXR HLV6
      obtain ⟨t0, t1, t2, t3, t4, t5, t6, t7⟩ := HA6.out.all
      obtain ⟨f0, f1, f2, f3, f4, f5, f6, f7⟩ := HA6.out.still
      have hbl := HA6.out.lt
      obtain ⟨d0, d1, d2, d3, d4, d5, d6, d7⟩ := HD6.out.all
      have hdl := HD6.out.lt
      go_wp2
      clear t0 t1 t2 t3 t4 t5 t6 t7 f0 f1 f2 f3 f4 f5 f6 f7 hbl d0 d1 d2 d3 d4 d5 d6 d7 hdl
      obtain ⟨wf, hw⟩ : ∃ w', w' = (((((((w6.setCell ⟨b2, 0, none⟩ (.int .i64 L.k)).setCell ⟨b2, 1, none⟩ (.int .i64 L.f)).setCell ⟨b2, 2, none⟩ (.int .i64 L.t)).setCell ⟨b2, 3, none⟩ (.int .i64 L.g)).setCell ⟨b2, 4, none⟩ (.int .i64 L.p)).setCell ⟨b2, 5, none⟩ (.int .i64 L.n)).setCell ⟨b2, 6, none⟩ (.slice pa np pc)).setCell ⟨b2, 7, none⟩ (.slice ra nr rc) := ⟨_, rfl⟩
      rw [← hw]
      obtain ⟨hg, haf⟩ := HA6.out.fill hw
      have HPF := Lib.hid (HGOOD.out wf hg)
      clear hw hg
      obtain ⟨t0, t1, t2, t3, t4, t5, t6, t7⟩ := haf.all
      have hbl := haf.lt
      clear haf
      refine bodyPost_ret (by simp [results, Try.results50, go_sem, t0, t1, t2, t3, t4, t5, t6, t7]; try rfl) rfl ?_
      exact HPF.out
end Go.Proofs.Ytdbdnfjgmdkneaa
namespace Go.Proofs.Ytdbdnfjgmdkneaa
set_option maxRecDepth 20000
open Go.RowKit Go.Deep
set_option linter.unusedVariables false
/-- The array is that of v, or a new one. -/
def NewBlk (w : World) (v v' : Value) : Prop := v'.ownBlock = v.ownBlock ∨ ∃ g, v'.ownBlock = some g ∧ w.heap.size ≤ g
theorem grown_on {a b c : World} {v v' : Value} (h : a.grownBy b v.ownBlock) (k : b.grownBy c v'.ownBlock) (hn : NewBlk a v v') : a.grownBy c v.ownBlock := by
  rcases hn with e | ⟨g, e, hg⟩
  · rw [e] at k; exact grown_trans h k
  · rw [e] at k
    exact ⟨k.os.trans h.os, k.tape.trans h.tape, k.output.trans h.output, Nat.le_trans h.size k.size, fun i hi hr =>
      (k.block i (Nat.lt_of_lt_of_le hi h.size) (by simp; omega)).trans (h.block i hi hr)⟩
theorem NewBlk.next {a b : World} {v v' v'' : Value} (h : NewBlk a v v') (hs : a.heap.size ≤ b.heap.size) (k : v''.ownBlock = v'.ownBlock ∨ ∃ g, v''.ownBlock = some g ∧ b.heap.size ≤ g) : NewBlk a v v'' := by
  rcases k with e | ⟨g, e, hg⟩
  · rcases h with e' | ⟨g, e', hg⟩
    · exact .inl (e.trans e')
    · exact .inr ⟨g, e.trans e', hg⟩
  · exact .inr ⟨g, e, Nat.le_trans hs hg⟩
theorem clean_any (w : World) (v : Value) : CleanBlk (fun _ => True) w v := fun _ _ _ _ _ _ _ _ => trivial
/-- The reference's put: the array is the old one or a new one. -/
def PutOut (w : World) (v : Value) (zs : List Nat) (e : Ending) (w' : World) : Prop := ∃ a c ys, e = .returned (.slice a ys.length c) ∧ ys = zs ∧ w'.ownsRow 0 5 1 (.slice a ys.length c) ys.length (u8vs ys) ∧ w.grownBy w' v.ownBlock ∧ NewBlk w v (.slice a ys.length c)
theorem put_own (v : Value) (xs : List Nat) (n W : Nat) (w : World) (hW : W ≤ 8) (hn : n < 4611686018427387904) (hx : xs.length ≤ 1000000) (hown : w.ownsRow 0 5 1 v xs.length (u8vs xs)) :
    Calls Try.prog 65 #[v, .int .i64 n, .int .i64 W] w (PutOut w v (xs ++ KM.nb W n)) := by
  obtain ⟨iu, hiu, hz0, hz1, hz2⟩ := info_parts byteinfo
  have HI := Lib.hid hiu
  have HZ0 := Lib.hid hz0
  have HZ1 := Lib.hid hz1
  have HZ2 := Lib.hid hz2
  have HOWN := Lib.hid hown
  obtain ⟨lx, hlx⟩ : ∃ lx, lx = xs.length := ⟨_, rfl⟩
  rw [← hlx] at hx HOWN
  have HLX := Lib.hid hlx
  obtain ⟨va, vc, rfl⟩ := owns_slice HOWN.out
  clear hiu hz0 hz1 hz2 hown hlx
  go_enter Try.func65, Try.ntmps65
  go_wp2_with fail
  go_loopw [0, 7] (fun s0 s7 wr => ∃ q : Nat, q ≤ W ∧ s7 = .int .i64 ((q : Int) - 1) ∧ Hid (wr.ownsRow 0 5 1 s0 (lx + (W - q)) (u8vs (xs ++ (KM.nb W n).take (W - q)))) ∧ Hid (w.grownBy wr (Value.slice va lx vc).ownBlock) ∧ Hid (NewBlk w (.slice va lx vc) s0)) (fun _ s7 _ => (intOf s7 + 1).toNat)
  case atStart => exact ⟨W, by omega, by rfl, by rw [Nat.sub_self, List.take_zero, List.append_nil]; exact HOWN, grown_refl _ _, .inl rfl⟩
  case round =>
    obtain ⟨q, hq, rfl, HO, HG, HN⟩ := hrel
    obtain ⟨a0, c0, rfl⟩ := owns_slice HO.out
    by_cases h : q = 0
    · subst h
      have HP : Hid (PutOut w (.slice va lx vc) (xs ++ KM.nb W n) (.returned (.slice a0 (lx + (W - 0)) c0)) wr) := by
        have ho := HO.out
        have e : lx + (W - 0) = (xs ++ KM.nb W n).length := by rw [List.length_append, KM.nb_length, HLX.out]; rfl
        have hnb := HN.out
        rw [List.take_of_length_le (by rw [KM.nb_length]; omega), e] at ho
        rw [e] at hnb ⊢
        exact ⟨a0, c0, _, rfl, rfl, ho, HG.out, hnb⟩
      go_wp2
      go_ret
      exact HP.out
    · obtain ⟨p, rfl⟩ : ∃ p, q = p + 1 := ⟨q - 1, by omega⟩
      rw [show (((p + 1 : Nat) : Int) - 1) = (p : Int) by omega]
      have hshr := shr_bytes n p
      obtain ⟨m, hm⟩ : ∃ m, m = n / 256 ^ p % 256 := ⟨_, rfl⟩
      have hm2 : m < 256 := hm ▸ Nat.mod_lt _ (by decide)
      have hand : bits .and .i64 ((n : Int) / 256 ^ p) 255 = (m : Int) := by
        rw [i64_and255, hm, Int.natCast_emod, Int.natCast_ediv, Int.natCast_pow]; rfl
      have HM := Lib.hid hm
      clear h hm
      go_wp2_with (at_builtin; refine wpList_append_own_src3 _ rfl _ _ 26 26 rfl 0 5 iu (.int .u8 0) 1 1 Try.underlying26 HI.out HZ0.out HZ1.out HZ2.out rfl _ _ _ rfl (HO.out.alloc _) _ 1 [.int .u8 m] rfl (src_one Try.underlying26 _ _ rfl rfl) (by unfold maxLen; omega) (by omega) (Nat.zero_le _) (fun _ => True) (clean_any _ _) (fun _ _ => trivial) (fun _ _ => trivial) ?_)
      intro v' w9 ho9 hg9 hn9 _
      have HP : Hid (w9.ownsRow 0 5 1 v' (lx + (W - p)) (u8vs (xs ++ (KM.nb W n).take (W - p))) ∧ w.grownBy w9 (Value.slice va lx vc).ownBlock ∧ NewBlk w (.slice va lx vc) v') := by
        refine ⟨?_, grown_on (grown_alloc HG.out _) hg9 HN.out, HN.out.next (b := wr) HG.out.size (hn9.imp id (fun ⟨g, e, h⟩ => ⟨g, e, by omega⟩))⟩
        rw [show lx + (W - p) = lx + (W - (p + 1)) + 1 by omega, ← KM.nb_step p W n (by omega), ← HM.out, ← List.append_assoc, u8vs_app1]
        exact ho9
      clear ho9 hg9 hn9
      go_wp2
      go_roundw
      case rel => exact ⟨p, by omega, by go_num, Lib.hid HP.out.1, Lib.hid HP.out.2.1, Lib.hid HP.out.2.2⟩
      case measure => simp [intOf]
end Go.Proofs.Ytdbdnfjgmdkneaa
namespace Go.Proofs.Ytdbdnfjgmdkneaa
set_option maxRecDepth 20000
open Go.RowKit Go.Deep
set_option linter.unusedVariables false
theorem owns_raise {w : World} {B n s : Nat} {T : TypeId} {v : Value} {xs : List Value} (h : w.ownsRow 0 T s v n xs) (hb : ∀ g, v.ownBlock = some g → B ≤ g) : w.ownsRow B T s v n xs := by
  refine ⟨h.1, ?_⟩
  rcases h.2 with h2 | ⟨g, cap, cur, rfl, _, rest⟩
  · exact .inl h2
  · exact .inr ⟨g, cap, cur, rfl, hb g rfl, rest⟩
/-- The bytes of a letter, by the reference. -/
def RLB (l : Lt) (w : World) (e : Ending) (w' : World) : Prop := ∃ bs v, e = .returned v ∧ U8s w' v bs ∧ w.Extends w' ∧ (LQ.Right l ∧ bs = LQ.bytes l ∨ ¬ LQ.Right l ∧ bs = [])
namespace LQ
theorem bytes_rput (k f t g p n : Nat) (hk : k < 256) (ps : List Int) (rs : List Rc) : bytes ⟨k, f, t, g, p, n, ps, rs⟩ = [k] ++ KM.nb 4 f ++ KM.nb 4 t ++ KM.nb 4 g ++ KM.nb 4 p ++ KM.nb 4 n ++ KM.nb 1 ps.length ++ pb ps ++ KM.nb 1 rs.length ++ rb rs := by
  have e : KM.nb 1 k = [k] := by simp [KM.nb]; omega
  simp only [bytes, head, Int.toNat_natCast, e, List.append_assoc]
end LQ
set_option maxHeartbeats 8000000 in
theorem rlbytes_any (l : Lt) (vp vr : Value) (w : World) (hv : LetV w vp vr l) :
    Calls Try.prog 52 #[l.val vp vr] w (RLB l w) := by
  obtain ⟨pa, pc, ra, rc, rfl, rfl⟩ := hv.parts
  have hpm := hv.1.len
  have hrm := hv.2.len
  unfold maxLen at hpm hrm
  have HPI := Lib.hid hv.1
  have HRS := Lib.hid hv.2
  have HNIL : Hid (∀ w', ¬ LQ.Right l → w.Extends w' → RLB l w (.returned (.slice none 0 0)) w') := fun w' h hx => ⟨[], _, rfl, nil_u8s _ _ _, hx, .inr ⟨h, rfl⟩⟩
  have HYES : Hid (∀ w' v, LQ.Right l → U8s w' v (LQ.bytes l) → w.Extends w' → RLB l w (.returned v) w') := fun w' v h hu hx => ⟨_, v, rfl, hu, hx, .inl ⟨h, rfl⟩⟩
  have HRR : Hid (LQ.Right l ↔ (1 ≤ l.k ∧ l.k ≤ 3) ∧ (LQ.N31 l.f ∧ LQ.N31 l.t ∧ LQ.N31 l.g ∧ LQ.N31 l.p ∧ LQ.N31 l.n) ∧ (l.ps.length ≤ 255 ∧ ∀ x ∈ l.ps, LQ.N31 x) ∧ l.rs.length ≤ 255 ∧ ∀ r ∈ l.rs, KM.Right r) := Iff.rfl
  have HBY : Hid (∀ k f t g p n : Nat, k < 256 → l.k = (k : Int) → l.f = (f : Int) → l.t = (t : Int) → l.g = (g : Int) → l.p = (p : Int) → l.n = (n : Int) → LQ.bytes l = [k] ++ KM.nb 4 f ++ KM.nb 4 t ++ KM.nb 4 g ++ KM.nb 4 p ++ KM.nb 4 n ++ KM.nb 1 l.ps.length ++ LQ.pb l.ps ++ KM.nb 1 l.rs.length ++ LQ.rb l.rs) := fun k f t g p n hk h1 h2 h3 h4 h5 h6 => by
    obtain ⟨k', f', t', g', p', n', ps, rs⟩ := l
    simp only at h1 h2 h3 h4 h5 h6
    subst h1; subst h2; subst h3; subst h4; subst h5; subst h6
    exact LQ.bytes_rput k f t g p n hk ps rs
  generalize RLB l w = POST at *
  generalize hRI : LQ.Right l = RI at *
  generalize LQ.bytes l = bs at *
  clear hRI
  obtain ⟨k, f, t, g, p, n, ps, rs⟩ := l
  simp only at *
  obtain ⟨np, hnp⟩ : ∃ np, np = ps.length := ⟨_, rfl⟩
  obtain ⟨nr, hnr⟩ : ∃ nr, nr = rs.length := ⟨_, rfl⟩
  rw [← hnp] at HPI HRR HBY hpm ⊢
  rw [← hnr] at HRS HRR HBY hrm ⊢
  have HNP := Lib.hid hnp
  have HNR := Lib.hid hnr
  clear hnp hnr hv
  show Calls Try.prog 52 #[.agg #[.int .i64 k, .int .i64 f, .int .i64 t, .int .i64 g, .int .i64 p, .int .i64 n, .slice pa np pc, .slice ra nr rc]] w _
  go_enter Try.func52, Try.ntmps52
  go_upto_region 1 with fail
  generalize hw1 : World.alloc w _ = w1
  have hx1 : w.Extends w1 := by subst hw1; exact ext_alloc _ _
  have hl1 : L8 w1 w.heap.size [.int .i64 k, .int .i64 f, .int .i64 t, .int .i64 g, .int .i64 p, .int .i64 n, .slice pa np pc, .slice ra nr rc] := by subst hw1; exact heap_alloc_new _ _
  obtain ⟨x, hxn⟩ : ∃ x, x = w.heap.size := ⟨_, rfl⟩
  rw [← hxn] at hl1 ⊢
  have HX1 := Lib.hid hx1
  have HL1 := Lib.hid hl1
  have HXW : Hid (w.heap.size ≤ x) := Nat.le_of_eq hxn.symm
  clear hw1 hx1 hl1 hxn
  obtain ⟨q0, q1, q2, q3, q4, q5, q6, q7⟩ := HL1.out.all
  have hxl := HL1.out.lt
  by_cases hk1 : k < 1
  case pos =>
    have HP := Lib.hid (HNIL.out w1 (fun h => by have := (HRR.out.1 h).1; omega) HX1.out)
    have hd : decide (k < 1) = true := by rw [decide_eq_true_iff]; omega
    go_wp2
    exact HP.out
  have hd1 : decide (k < 1) = false := by rw [decide_eq_false_iff_not]; omega
  by_cases hk2 : 3 < k
  case pos =>
    have HP := Lib.hid (HNIL.out w1 (fun h => by have := (HRR.out.1 h).1; omega) HX1.out)
    have hd : decide (k > 3) = true := by rw [decide_eq_true_iff]; omega
    go_wp2
    exact HP.out
  have hd2 : decide (k > 3) = false := by rw [decide_eq_false_iff_not]; omega
  go_wp2_with fail
  by_cases cf : 0 ≤ f ∧ f ≤ 2147483647
  case neg =>
    have HP := Lib.hid (HNIL.out w1 (fun h => cf (HRR.out.1 h).2.1.1) HX1.out)
    refine (rn_no f w1 cf).mono ?_
    rintro e w2 ⟨rfl, rfl⟩
    clear cf
    go_wp2
    exact HP.out
  refine (rn_yes f w1 cf.1 cf.2).mono ?_
  rintro e w2 ⟨rfl, rfl⟩
  go_wp2_with fail
  by_cases ct : 0 ≤ t ∧ t ≤ 2147483647
  case neg =>
    have HP := Lib.hid (HNIL.out w1 (fun h => ct (HRR.out.1 h).2.1.2.1) HX1.out)
    refine (rn_no t w1 ct).mono ?_
    rintro e w2 ⟨rfl, rfl⟩
    clear ct
    go_wp2
    exact HP.out
  refine (rn_yes t w1 ct.1 ct.2).mono ?_
  rintro e w2 ⟨rfl, rfl⟩
  go_wp2_with fail
  by_cases cg : 0 ≤ g ∧ g ≤ 2147483647
  case neg =>
    have HP := Lib.hid (HNIL.out w1 (fun h => cg (HRR.out.1 h).2.1.2.2.1) HX1.out)
    refine (rn_no g w1 cg).mono ?_
    rintro e w2 ⟨rfl, rfl⟩
    clear cg
    go_wp2
    exact HP.out
  refine (rn_yes g w1 cg.1 cg.2).mono ?_
  rintro e w2 ⟨rfl, rfl⟩
  go_wp2_with fail
  by_cases cp : 0 ≤ p ∧ p ≤ 2147483647
  case neg =>
    have HP := Lib.hid (HNIL.out w1 (fun h => cp (HRR.out.1 h).2.1.2.2.2.1) HX1.out)
    refine (rn_no p w1 cp).mono ?_
    rintro e w2 ⟨rfl, rfl⟩
    clear cp
    go_wp2
    exact HP.out
  refine (rn_yes p w1 cp.1 cp.2).mono ?_
  rintro e w2 ⟨rfl, rfl⟩
  go_wp2_with fail
  by_cases cn : 0 ≤ n ∧ n ≤ 2147483647
  case neg =>
    have HP := Lib.hid (HNIL.out w1 (fun h => cn (HRR.out.1 h).2.1.2.2.2.2) HX1.out)
    refine (rn_no n w1 cn).mono ?_
    rintro e w2 ⟨rfl, rfl⟩
    clear cn
    go_wp2
    exact HP.out
  refine (rn_yes n w1 cn.1 cn.2).mono ?_
  rintro e w2 ⟨rfl, rfl⟩
  by_cases c1 : np ≤ 255
  case neg =>
    have HP := Lib.hid (HNIL.out w1 (fun h => c1 (HRR.out.1 h).2.2.1.1) HX1.out)
    have hd : decide ((np : Int) > 255) = true := by rw [decide_eq_true_iff]; omega
    go_wp2
    exact HP.out
  have hd3 : decide ((np : Int) > 255) = false := by rw [decide_eq_false_iff_not]; omega
  by_cases c2 : nr ≤ 255
  case neg =>
    have HP := Lib.hid (HNIL.out w1 (fun h => c2 (HRR.out.1 h).2.2.2.1) HX1.out)
    have hd : decide ((nr : Int) > 255) = true := by rw [decide_eq_true_iff]; omega
    go_wp2
    exact HP.out
  have hd4 : decide ((nr : Int) > 255) = false := by rw [decide_eq_false_iff_not]; omega
  go_upto_region 3 with fail
  clear q0 q1 q2 q3 q4 q5 q6 q7 hxl hd1 hd2 hd3 hd4
  obtain ⟨kk, rfl⟩ := Int.eq_ofNat_of_zero_le (show 0 ≤ k by omega)
  obtain ⟨ff, rfl⟩ := Int.eq_ofNat_of_zero_le cf.1
  obtain ⟨tt, rfl⟩ := Int.eq_ofNat_of_zero_le ct.1
  obtain ⟨gg, rfl⟩ := Int.eq_ofNat_of_zero_le cg.1
  obtain ⟨pp, rfl⟩ := Int.eq_ofNat_of_zero_le cp.1
  obtain ⟨nn, rfl⟩ := Int.eq_ofNat_of_zero_le cn.1
  have hkk : kk ≤ 3 := by omega
  have HBY2 := Lib.hid (HBY.out kk ff tt gg pp nn (by omega) rfl rfl rfl rfl rfl rfl)
  have HH : Hid ((1 ≤ (kk : Int) ∧ (kk : Int) ≤ 3) ∧ (LQ.N31 ff ∧ LQ.N31 tt ∧ LQ.N31 gg ∧ LQ.N31 pp ∧ LQ.N31 nn)) := ⟨by omega, cf, ct, cg, cp, cn⟩
  have HBD : Hid (ff < 4611686018427387904 ∧ tt < 4611686018427387904 ∧ gg < 4611686018427387904 ∧ pp < 4611686018427387904 ∧ nn < 4611686018427387904) := by show _ ∧ _; omega
  clear HBY cf ct cg cp cn hk1 hk2
  obtain ⟨B, hB⟩ : ∃ B, B = w1.heap.size := ⟨_, rfl⟩
  have hxB : x < B := by rw [hB]; exact HL1.out.lt
  have HWB : Hid (w.heap.size ≤ B) := by show _ ≤ _; rw [hB]; exact HX1.out.size
  have HE : Hid (∀ w', Below B w1 w' → w1.Extends w') := fun w' h => ext_below h hB
  have HB1 : Hid (Below B w1 w1.drew) := below_drew (Below.refl _ _)
  have HBS1 : Hid (B ≤ w1.drew.heap.size) := Nat.le_of_eq hB
  have HBB : Hid (B ≤ w1.heap.size) := Nat.le_of_eq hB
  obtain ⟨iu, hiu, hz0, hz1, hz2⟩ := info_parts byteinfo
  have HI := Lib.hid hiu
  have HZ0 := Lib.hid hz0
  have HZ1 := Lib.hid hz1
  have HZ2 := Lib.hid hz2
  clear hiu hz0 hz1 hz2
  clear hB
  refine GrB.region B 21 [(false,0),(false,1),(false,2),(false,4),(false,5),(false,7),(false,8),(false,10),(false,11),(false,13),(false,14),(false,15),(false,17),(false,18),(false,19),(true,3),(true,6),(true,9),(true,12),(true,16),(true,20)] (by kernel_rfl) (by kernel_rfl) (fun d _ _ _ _ h => by cases d <;> exact h) ?_
  simp only [Gr.pick, List.getElem?_cons_zero, List.getElem?_cons_succ, List.drop_succ_cons, List.drop_zero]
  generalize w1.drew = w2 at *
  iterate 15
    refine GrB.walk_t ?_ (Or.inl ⟨by rfl, ?_⟩) ?_
    rotate_left
    · intro w' hw'
      have hl := HL1.out.ext (HE.out w' (HB1.out.trans hw'))
      obtain ⟨q0, q1, q2, q3, q4, q5, q6, q7⟩ := hl.all
      have hbx := hl.lt
      clear hl
      clear hw'
      go_simp
      try with_reducible rfl
    simp only [Act.put, List.setIfInBounds_toArray, List.set_cons_zero, List.set_cons_succ]
  refine GrB.walk_c (fun K hK => ?_)
  go_simp
  generalize hw : World.alloc _ _ = w3
  have hwr : IntKind.u8.wrap (kk : Int) = (kk : Int) := by
    have h := HH.out.1
    have h2 : kk = 1 ∨ kk = 2 ∨ kk = 3 := by omega
    rcases h2 with rfl | rfl | rfl <;> decide
  rw [hwr] at hw
  have hx3 : w2.Extends w3 := by subst hw; exact ext_alloc _ _
  have hb3 : Below B w2 w3 := by subst hw; exact (Below.refl _ _).alloc HBS1.out _
  have HO3 : Hid (w3.ownsRow B 5 1 (.slice (some ⟨w2.heap.size, 0, none⟩) ([kk] : List Nat).length 1) ([kk] : List Nat).length (u8vs [kk])) := by
    have hh : w3.heap[w2.heap.size]? = some (.cells #[.int .u8 (kk : Nat)] 5) := by subst hw; exact heap_alloc_new _ _
    exact owns_base (own_lit _ w2.heap.size kk hh) HBS1.out
  have HB3 : Hid (Below B w1 w3) := HB1.out.trans hb3
  have HBS3 : Hid (B ≤ w3.heap.size) := Nat.le_trans HBS1.out hx3.size
  refine hK.out _ _ hb3 ?_
  clear hK K hw hx3 hb3 hwr HB1 HBS1
  refine GrB.walk_c (fun K hK => ?_)
  go_simp
  refine (put_new B _ [kk] ff 4 w3 (by omega) (by have := HBD.out; omega) (by simp) HO3.out HBS3.out).mono ?_
  rintro e' w4 ⟨a4, c4, z4, rfl, hz4, ho4, hb4⟩
  have HZ4 : Hid (z4 = [kk] ++ KM.nb 4 ff) := hz4
  have HQ4 : Hid (z4.length = 5) := by show _ = _; rw [hz4, List.length_append, KM.nb_length]; rfl
  have HB4 : Hid (Below B w1 w4) := HB3.out.trans hb4
  have HBS4 : Hid (B ≤ w4.heap.size) := Nat.le_trans HBS3.out hb4.size
  have HO4 := Lib.hid ho4
  clear ho4 hz4
  try go_simp
  refine hK.out _ _ (hb4) ?_
  clear hK K
  clear hb4 HB3 HO3 HBS3
  refine GrB.walk_c (fun K hK => ?_)
  go_simp
  refine (put_new B _ z4 tt 4 w4 (by omega) (by have := HBD.out; omega) (by rw [HQ4.out]; omega) HO4.out HBS4.out).mono ?_
  rintro e' w5 ⟨a5, c5, z5, rfl, hz5, ho5, hb5⟩
  have HZ5 : Hid (z5 = z4 ++ KM.nb 4 tt) := hz5
  have HQ5 : Hid (z5.length = 9) := by show _ = _; rw [hz5, List.length_append, KM.nb_length]; rw [HQ4.out]
  have HB5 : Hid (Below B w1 w5) := HB4.out.trans hb5
  have HBS5 : Hid (B ≤ w5.heap.size) := Nat.le_trans HBS4.out hb5.size
  have HO5 := Lib.hid ho5
  clear ho5 hz5
  try go_simp
  refine hK.out _ _ (hb5) ?_
  clear hK K
  clear hb5 HB4 HO4 HBS4
  refine GrB.walk_c (fun K hK => ?_)
  go_simp
  refine (put_new B _ z5 gg 4 w5 (by omega) (by have := HBD.out; omega) (by rw [HQ5.out]; omega) HO5.out HBS5.out).mono ?_
  rintro e' w6 ⟨a6, c6, z6, rfl, hz6, ho6, hb6⟩
  have HZ6 : Hid (z6 = z5 ++ KM.nb 4 gg) := hz6
  have HQ6 : Hid (z6.length = 13) := by show _ = _; rw [hz6, List.length_append, KM.nb_length]; rw [HQ5.out]
  have HB6 : Hid (Below B w1 w6) := HB5.out.trans hb6
  have HBS6 : Hid (B ≤ w6.heap.size) := Nat.le_trans HBS5.out hb6.size
  have HO6 := Lib.hid ho6
  clear ho6 hz6
  try go_simp
  refine hK.out _ _ (hb6) ?_
  clear hK K
  clear hb6 HB5 HO5 HBS5
  refine GrB.walk_c (fun K hK => ?_)
  go_simp
  refine (put_new B _ z6 pp 4 w6 (by omega) (by have := HBD.out; omega) (by rw [HQ6.out]; omega) HO6.out HBS6.out).mono ?_
  rintro e' w7 ⟨a7, c7, z7, rfl, hz7, ho7, hb7⟩
  have HZ7 : Hid (z7 = z6 ++ KM.nb 4 pp) := hz7
  have HQ7 : Hid (z7.length = 17) := by show _ = _; rw [hz7, List.length_append, KM.nb_length]; rw [HQ6.out]
  have HB7 : Hid (Below B w1 w7) := HB6.out.trans hb7
  have HBS7 : Hid (B ≤ w7.heap.size) := Nat.le_trans HBS6.out hb7.size
  have HO7 := Lib.hid ho7
  clear ho7 hz7
  try go_simp
  refine hK.out _ _ (hb7) ?_
  clear hK K
  clear hb7 HB6 HO6 HBS6
  refine GrB.walk_c (fun K hK => ?_)
  go_simp
  refine (put_new B _ z7 nn 4 w7 (by omega) (by have := HBD.out; omega) (by rw [HQ7.out]; omega) HO7.out HBS7.out).mono ?_
  rintro e' w8 ⟨a8, c8, z8, rfl, hz8, ho8, hb8⟩
  have HZ8 : Hid (z8 = z7 ++ KM.nb 4 nn) := hz8
  have HQ8 : Hid (z8.length = 21) := by show _ = _; rw [hz8, List.length_append, KM.nb_length]; rw [HQ7.out]
  have HB8 : Hid (Below B w1 w8) := HB7.out.trans hb8
  have HBS8 : Hid (B ≤ w8.heap.size) := Nat.le_trans HBS7.out hb8.size
  have HO8 := Lib.hid ho8
  clear ho8 hz8
  try go_simp
  refine hK.out _ _ (hb8) ?_
  clear hK K
  clear hb8 HB7 HO7 HBS7
  refine GrB.walk_nil ?_
  have hl8 := HL1.out.ext (HE.out w8 HB8.out)
  obtain ⟨q0, q1, q2, q3, q4, q5, q6, q7⟩ := hl8.all
  have hbq := hl8.lt
  clear hl8
  go_wp2_with fail
  clear q0 q1 q2 q3 q4 q5 q6 q7 hbq
  refine (put_new B _ z8 np 1 w8 (by omega) (by omega) (by have := HQ8.out; omega) HO8.out HBS8.out).mono ?_
  rintro e' w9 ⟨a9, c9, z9, rfl, hz9, ho9, hb9⟩
  have HZ9 : Hid (z9 = z8 ++ KM.nb 1 np) := hz9
  have HQ9 : Hid (z9.length = z8.length + 1) := by show _ = _; rw [hz9, List.length_append, KM.nb_length]
  have HB9 : Hid (Below B w1 w9) := HB8.out.trans hb9
  have HBS9 : Hid (B ≤ w9.heap.size) := Nat.le_trans HBS8.out hb9.size
  have HO9 := Lib.hid ho9
  clear ho9 hz9 hb9 HB8 HO8 HBS8
  have HZL : Hid (z9.length = 22) := by show _ = _; rw [HQ9.out, HQ8.out]
  have HLZ : Hid (∀ y ∈ z9, y < 256) := fun y hy => by
    rw [HZ9.out, HZ8.out, HZ7.out, HZ6.out, HZ5.out, HZ4.out] at hy
    simp only [List.mem_append, List.mem_cons, List.not_mem_nil, or_false] at hy
    rcases hy with (((((h | h) | h) | h) | h) | h) | h
    · omega
    all_goals exact KM.nb_lt _ _ y h
  have HBY3 : Hid (bs = z9 ++ LQ.pb ps ++ KM.nb 1 nr ++ LQ.rb rs) := by show _ = _; rw [HBY2.out, HZ9.out, HZ8.out, HZ7.out, HZ6.out, HZ5.out, HZ4.out]
  have HPC : Hid (0 < np → ∃ b off, pa = some ⟨b, off, none⟩ ∧ ∀ w', Below B w1 w' → b < w'.heap.size ∧ ∀ q, q < np → w'.cell? ⟨b, off + q, none⟩ = some (.int .i64 (ps.getD q 0))) := fun h0 => by
    obtain ⟨b, off, h1, h2, h3⟩ := (HPI.out.ext HX1.out).cell.2 h0
    exact ⟨b, off, h1, fun w' hb => ⟨Nat.lt_of_lt_of_le h2 hb.size, fun q hq => (HE.out w' hb).cell_of (h3 q hq)⟩⟩
  have HSNP : Hid (∀ q, q < np → ps.take (q + 1) = ps.take q ++ [ps.getD q 0]) := fun q hq => LQ.take_snoc ps q 0 (by rw [← HNP.out]; exact hq)
  have HMP : Hid (∀ q, q < np → ps.getD q 0 ∈ ps) := fun q hq => by rw [List.getD_eq_getElem?_getD, List.getElem?_eq_getElem (by rw [← HNP.out]; exact hq)]; exact List.getElem_mem _
  have HFP : Hid (ps.take np = ps) := by show _ = _; rw [HNP.out, List.take_length]
  have HLP : Hid (∀ q, q ≤ np → (z9 ++ LQ.pb (ps.take q)).length ≤ 1100) := fun q hq => by
    rw [List.length_append, HZL.out, LQ.pb_length, List.length_take]
    have : min q ps.length ≤ q := Nat.min_le_left _ _
    omega
  clear HZ4 HZ5 HZ6 HZ7 HZ8 HZ9 HQ4 HQ5 HQ6 HQ7 HQ8 HQ9 HBY2 HBD HPI
  have H0 : Hid (w9.ownsRow B 5 1 (.slice a9 z9.length c9) (z9 ++ LQ.pb (ps.take 0)).length (u8vs (z9 ++ LQ.pb (ps.take 0)))) := by
    rw [List.take_zero, LQ.pb_nil, List.append_nil]
    exact HO9.out
  clear HO9
  generalize z9.length = zl9 at *
  go_wp2_with fail
  go_loopw [3, 4] (fun s3 s4 wr => ∃ (q : Nat) (zs : List Nat), q ≤ np ∧ s4 = .int .i64 (q : Int) ∧ Hid (zs = z9 ++ LQ.pb (ps.take q)) ∧ Hid (∀ x ∈ ps.take q, LQ.N31 x) ∧ Hid (wr.ownsRow B 5 1 s3 zs.length (u8vs zs)) ∧ Hid (Below B w1 wr)) (fun _ s4 _ => (np - intOf s4).toNat)
  case atStart => exact ⟨0, _, by omega, by rfl, rfl, (fun x hx => by simp at hx), H0, HB9⟩
  case round =>
    clear H0 HB9 HBS9
    obtain ⟨q, zs, hq, rfl, HZS, HALLP, HO, HX⟩ := hrel
    have HZB : Hid (zs.length ≤ 1100) := by show _ ≤ _; rw [HZS.out]; exact HLP.out q hq
    have HBSR : Hid (B ≤ wr.heap.size) := Nat.le_trans HBB.out HX.out.size
    obtain ⟨a0, cc0, rfl⟩ := owns_slice HO.out
    have hl8 := HL1.out.ext (HE.out wr HX.out)
    obtain ⟨q0, q1, q2, q3, q4, q5, q6, q7⟩ := hl8.all
    have hbq := hl8.lt
    clear hl8
    by_cases h1 : q < np
    · obtain ⟨pb, po, rfl, hpc⟩ := HPC.out (by omega)
      obtain ⟨hpb, hpc⟩ := hpc wr HX.out
      have hc := hpc q h1
      have HSQ := Lib.hid (HSNP.out q h1)
      have HMQ := Lib.hid (HMP.out q h1)
      generalize ps.getD q 0 = y at *
      clear hpc
      generalize hzl : zs.length = zsl at *
      have HZL2 := Lib.hid hzl
      clear hzl
      go_wp2_with fail
      by_cases cy : 0 ≤ y ∧ y ≤ 2147483647
      case neg =>
        have HP := Lib.hid (HNIL.out wr (fun h => cy ((HRR.out.1 h).2.2.1.2 y HMQ.out)) (Gr.ext_trans HX1.out (HE.out wr HX.out)))
        refine (rn_no y wr cy).mono ?_
        rintro e w2 ⟨rfl, rfl⟩
        clear cy
        go_wp2
        exact HP.out
      refine (rn_yes y wr cy.1 cy.2).mono ?_
      rintro e w2 ⟨rfl, rfl⟩
      obtain ⟨y, rfl⟩ := Int.eq_ofNat_of_zero_le cy.1
      go_wp2_with fail
      refine (put_new B _ zs y 4 wr (by omega) (by omega) (by have := HZB.out; rw [HZL2.out]; omega) (by rw [HZL2.out]; exact HO.out) HBSR.out).mono ?_
      rintro e' w5 ⟨a5, c5, z5, rfl, hz5, ho5, hb5⟩
      have HX5 : Hid (Below B w1 w5) := HX.out.trans hb5
      have HO5 := Lib.hid ho5
      have HZ5 : Hid (z5 = z9 ++ LQ.pb (ps.take (q + 1))) := by
        show _ = _
        rw [hz5, HZS.out, HSQ.out, LQ.pb_snoc, Int.toNat_natCast, List.append_assoc]
      have HAP5 : Hid (∀ x ∈ ps.take (q + 1), LQ.N31 x) := fun x hx => by
        rw [HSQ.out] at hx
        rcases List.mem_append.1 hx with hx | hx
        · exact HALLP.out x hx
        · obtain rfl : x = (y : Int) := by simpa using hx
          exact cy
      clear ho5 hz5 hb5 HX HO HZS HALLP q0 q1 q2 q3 q4 q5 q6 q7 hbq hc hpb cy
      go_wp2
      go_roundw
      case rel => exact ⟨q + 1, z5, by omega, by go_num, HZ5, HAP5, HO5, HX5⟩
      case measure => simp [intOf]; omega
    · obtain rfl : q = np := by omega
      rw [HFP.out] at HALLP HZS
      clear h1
      have HQZ : Hid (zs.length ≤ 1100) := HZB
      go_wp2_with fail
      clear q0 q1 q2 q3 q4 q5 q6 q7 hbq
      refine (put_new B _ zs nr 1 wr (by omega) (by omega) (by have := HZB.out; omega) HO.out HBSR.out).mono ?_
      rintro e' w10 ⟨a10, c10, z10, rfl, hz10, ho10, hb10⟩
      have HZ10 : Hid (z10 = z9 ++ LQ.pb ps ++ KM.nb 1 nr) := by show _ = _; rw [hz10, HZS.out]
      have HB10 : Hid (Below B w1 w10) := HX.out.trans hb10
      have HO10 := Lib.hid ho10
      have HL10 : Hid (z10.length ≤ 1101) := by show _ ≤ _; rw [hz10, List.length_append, KM.nb_length]; have := HZB.out; omega
      have HLT10 : Hid (∀ y ∈ z10, y < 256) := fun y hy => by
        rw [HZ10.out] at hy
        simp only [List.mem_append] at hy
        rcases hy with (h | h) | h
        · exact HLZ.out y h
        · exact LQ.pb_lt _ y h
        · exact KM.nb_lt _ _ y h
      have HRAT := Lib.hid (HRS.out.ext HX1.out).at.2
      have HRL := Lib.hid HRS.out.all_lt
      have HSN : Hid (∀ q, q < nr → rs.take (q + 1) = rs.take q ++ [rs.getD q Rc.zero]) := fun q hq => LQ.take_snoc rs q Rc.zero (by rw [← HNR.out]; exact hq)
      have HMEM : Hid (∀ q, q < nr → rs.getD q Rc.zero ∈ rs) := fun q hq => by rw [List.getD_eq_getElem?_getD, List.getElem?_eq_getElem (by rw [← HNR.out]; exact hq)]; exact List.getElem_mem _
      have HFR : Hid (rs.take nr = rs) := by show _ = _; rw [HNR.out, List.take_length]
      have HLB : Hid (∀ j, j ≤ nr → (∀ r ∈ rs.take j, KM.Right r) → (z10 ++ LQ.rb (rs.take j)).length ≤ 1101 + 90 * j) := fun j hj hall => by
        have h1 := LQ.rb_len (rs.take j) hall
        have h2 := HL10.out
        rw [List.length_append]
        rw [List.length_take] at h1
        have h3 : min j rs.length ≤ j := Nat.min_le_left _ _
        omega
      have H0 : Hid (w10.ownsRow B 5 1 (.slice a10 z10.length c10) (z10 ++ LQ.rb (rs.take 0)).length (u8vs (z10 ++ LQ.rb (rs.take 0)))) := by
        rw [List.take_zero, LQ.rb_nil, List.append_nil]
        exact HO10.out
      clear ho10 hz10 hb10 HX HO HO10 HZS HRS HZB HQZ HBSR hq
      generalize z10.length = zl10 at *
      go_wp2_with fail
      go_loopw [3, 5] (fun s3 s5 wr => ∃ (j : Nat) (zs : List Nat), j ≤ nr ∧ s5 = .int .i64 (j : Int) ∧ Hid (zs = z10 ++ LQ.rb (rs.take j)) ∧ Hid (∀ r ∈ rs.take j, KM.Right r) ∧ Hid (wr.ownsRow B 5 1 s3 zs.length (u8vs zs)) ∧ Hid (Below B w1 wr)) (fun _ s5 _ => (nr - intOf s5).toNat)
      case atStart => exact ⟨0, _, by omega, by rfl, rfl, (fun x hx => by simp at hx), H0, HB10⟩
      case round =>
        clear H0 HB10
        obtain ⟨j, zs, hj, rfl, HZS, HALLR, HO, HX⟩ := hrel
        have HZB : Hid (zs.length ≤ 1101 + 90 * j) := by show _ ≤ _; rw [HZS.out]; exact HLB.out j hj HALLR.out
        have HWX := Lib.hid (HE.out wr HX.out)
        have HBSR : Hid (B ≤ wr.heap.size) := Nat.le_trans HBB.out HX.out.size
        obtain ⟨a0, cc0, rfl⟩ := owns_slice HO.out
        have hl8 := HL1.out.ext HWX.out
        obtain ⟨q0, q1, q2, q3, q4, q5, q6, q7⟩ := hl8.all
        have hbq := hl8.lt
        clear hl8
        by_cases h1 : j < nr
        · obtain ⟨rbk, ro, rfl, hrb, hrc⟩ := HRAT.out (by omega)
          obtain ⟨da, dc, hr, hu⟩ := hrc j h1
          have hr := rangeAt_ext hr HWX.out
          have HU := Lib.hid (hu.ext HWX.out)
          have HSQ := Lib.hid (HSN.out j h1)
          have HMQ := Lib.hid (HMEM.out j h1)
          have HLTQ := Lib.hid (HRL.out _ (HMEM.out j h1))
          clear hu hrc
          generalize rs.getD j Rc.zero = r at *
          generalize hzl : zs.length = zsl at *
          have HZL2 := Lib.hid hzl
          clear hzl
          by_cases hR : KM.Right r
          · have HBR : Hid (Calls Try.prog 19 #[r.val (.slice da r.d.length dc)] wr (MadeBytesN wr (KM.bytes r))) := rbytes14_new r da dc wr hR (.inr HU.out)
            have HRLEN : Hid ((KM.bytes r).length ≤ 88 ∧ 13 ≤ (KM.bytes r).length) := ⟨rec_len hR, KM.bytes_pos r⟩
            have HZN : Hid (z10 ++ LQ.rb (rs.take (j + 1)) = zs ++ KM.nb 2 (KM.bytes r).length ++ KM.bytes r) := by
              show _ = _
              rw [HSQ.out, LQ.rb_snoc, HZS.out, LQ.rb1, List.append_assoc, List.append_assoc]
            have HAR5 : Hid (∀ x ∈ rs.take (j + 1), KM.Right x) := fun y hy => by
              rw [HSQ.out] at hy
              rcases List.mem_append.1 hy with hy | hy
              · exact HALLR.out y hy
              · obtain rfl : y = r := by simpa using hy
                exact hR
            generalize KM.bytes r = br at *
            clear hR HSQ HLTQ HMQ HU
            obtain ⟨rp, rn, rb, rs', rm, rk, re, rg, ru, rd⟩ := r
            obtain ⟨c0, c1, c2, c3, c4, c5, c6, c7, c8, c9⟩ := RCell.ten hr
            simp only at c0 c1 c2 c3 c4 c5 c6 c7 c8 c9
            generalize rd.length = dl at *
            have HBR2 : Hid (Calls Try.prog 19 #[.agg #[.int .i64 rp, .int .i64 rn, .int .i64 rb, .int .i64 rs', .int .i64 rm, .int .i64 rk, .int .i64 re, .bool rg, .int .i64 ru, .slice da dl dc]] wr (MadeBytesN wr br)) := HBR.out
            clear HBR hr
            go_wp2_with fail
            clear c0 c1 c2 c3 c4 c5 c6 c7 c8 c9 q0 q1 q2 q3 q4 q5 q6 q7 hbq
            refine HBR2.out.mono ?_
            rintro e' w3 ⟨v3, rfl, hu3, hx3, hn3⟩
            obtain ⟨a3, cc3, rfl, _, _⟩ := hu3.slice
            have HU3 := Lib.hid hu3
            have HNX : Hid (∀ g, (Value.slice a3 br.length cc3).ownBlock = some g → (Value.slice a0 zsl cc0).ownBlock ≠ some g) := fun g hg e => by
              have h1 := (HO.out.lt g e).2
              have h2 := hn3 g hg
              omega
            have HOB0 : Hid (∀ g, (Value.slice a0 zsl cc0).ownBlock = some g → B ≤ g) := fun g hg => (HO.out.lt g hg).1
            have HO3 := Lib.hid (owns_base (B' := 0) (owns_ext HO.out hx3) (Nat.zero_le _))
            have HX3 : Hid (Below B w1 w3) := HX.out.trans ⟨hx3.os, hx3.tape, hx3.output, hx3.size, fun i hi => hx3.block i (by have := HBSR.out; omega)⟩
            have HBS3 : Hid (B ≤ w3.heap.size) := Nat.le_trans HBSR.out hx3.size
            clear hu3 hx3 hn3 HX HO HBR2 HWX
            obtain ⟨bl, hbl⟩ : ∃ bl, bl = br.length := ⟨_, rfl⟩
            rw [← hbl] at HU3 HZN HRLEN HNX ⊢
            have HBL := Lib.hid hbl
            clear hbl
            have hblb := HRLEN.out.1
            have hblz : ((bl : Int) == 0) = false := by have := HRLEN.out.2; simp; omega
            go_wp2_with fail
            refine (put_own _ zs bl 2 w3 (by omega) (by omega) (by have := HZB.out; rw [HZL2.out]; omega) (by rw [HZL2.out]; exact HO3.out)).mono ?_
            rintro e' w5 ⟨a5, c5, z5, rfl, hz5, ho5, hg5, hn5⟩
            have HOB5 : Hid (∀ g, (Value.slice a5 z5.length c5).ownBlock = some g → B ≤ g) := fun g hg => by
              rcases hn5 with e | ⟨g', e, h⟩
              · exact HOB0.out g (e.symm.trans hg)
              · rw [hg] at e; have := Option.some.inj e; have := HBS3.out; omega
            have HX5 : Hid (Below B w1 w5) := HX3.out.grown hg5 HBS3.out HOB0.out
            have HBS5 : Hid (B ≤ w5.heap.size) := Nat.le_trans HBS3.out hg5.size
            have HO5 := Lib.hid (owns_raise ho5 HOB5.out)
            have HZ5 : Hid (z5 = zs ++ KM.nb 2 bl) := hz5
            have HQ5 : Hid (z5.length = zsl + 2) := by show _ = _; rw [hz5, List.length_append, KM.nb_length, HZL2.out]
            have HU5 : Hid (Src Try.prog 1 26 (.slice a3 bl cc3) bl (u8vs br) w5) := by
              have hu5 : U8s w5 (.slice a3 bl cc3) br := by
                rcases HU3.out with h | ⟨b, off, cap, e, h1, h2, h3, h4, h5⟩
                · exact .inl h
                · have hblk := hg5.block b h3 (fun e2 => HNX.out b (by rw [e]; rfl) e2.symm)
                  refine .inr ⟨b, off, cap, e, h1, h2, Nat.lt_of_lt_of_le h3 hg5.size, fun k hk => ?_, h5⟩
                  rw [World.cell?_of_block (w := w3) (w' := w5) (a := ⟨b, off + k, none⟩) hblk]
                  exact h4 k hk
              have h := hu5.src (P := Try.prog) Try.underlying26
              rwa [← HBL.out] at h
            clear ho5 hg5 hn5 hz5 HX3 HO3 HBS3 HU3 HNX hblz HOB0
            generalize hl5 : z5.length = l5 at *
            have HL5 := Lib.hid hl5
            clear hl5
            have h5 : l5 ≤ 50000 := by have h1 := HQ5.out; have h2 := HZB.out; omega
            go_wp2_with (at_builtin; refine wpList_append_own_src _ rfl _ _ 26 26 rfl B 5 iu (.int .u8 0) 1 1 Try.underlying26 HI.out HZ0.out HZ1.out HZ2.out rfl _ l5 (u8vs z5) rfl HO5.out _ bl (u8vs br) rfl HU5.out (by unfold maxLen; omega) (by omega) HBS5.out ?_)
            intro v9 w9 ho9 hg9 _
            have HX9 : Hid (Below B w1 w9) := HX5.out.grown hg9 HBS5.out HOB5.out
            have HO9 : Hid (w9.ownsRow B 5 1 v9 (z5 ++ br).length (u8vs (z5 ++ br))) := by
              rw [u8vs_app1, List.length_append, ← HBL.out, HL5.out]
              exact ho9
            clear ho9 hg9 HX5 HO5 HU5 HOB5 h5
            go_wp2
            go_roundw
            case rel => exact ⟨j + 1, z5 ++ br, by omega, by go_num, by show _ = _; rw [HZN.out, HZ5.out], HAR5, HO9, HX9⟩
            case measure => simp [intOf]; omega
          · have HBR : Hid (Calls Try.prog 19 #[r.val (.slice da r.d.length dc)] wr (MadeBytes wr [])) := rbytes14_no r da dc wr hR
            have HNR2 : Hid (¬ RI) := fun h => hR ((HRR.out.1 h).2.2.2.2 r HMQ.out)
            clear hR HSQ HLTQ HMQ HU
            obtain ⟨rp, rn, rb, rs', rm, rk, re, rg, ru, rd⟩ := r
            obtain ⟨c0, c1, c2, c3, c4, c5, c6, c7, c8, c9⟩ := RCell.ten hr
            simp only at c0 c1 c2 c3 c4 c5 c6 c7 c8 c9
            generalize rd.length = dl at *
            have HBR2 : Hid (Calls Try.prog 19 #[.agg #[.int .i64 rp, .int .i64 rn, .int .i64 rb, .int .i64 rs', .int .i64 rm, .int .i64 rk, .int .i64 re, .bool rg, .int .i64 ru, .slice da dl dc]] wr (MadeBytes wr [])) := HBR.out
            clear HBR hr
            go_wp2_with fail
            clear c0 c1 c2 c3 c4 c5 c6 c7 c8 c9 q0 q1 q2 q3 q4 q5 q6 q7 hbq
            refine HBR2.out.mono ?_
            rintro e' w3 ⟨v3, rfl, hu3, hx3⟩
            obtain ⟨a3, cc3, rfl, _, _⟩ := hu3.slice
            have HP := Lib.hid (HNIL.out w3 HNR2.out (Gr.ext_trans HX1.out (Gr.ext_trans HWX.out hx3)))
            clear hu3 hx3 HBR2
            simp only [List.length_nil]
            go_wp2
            exact HP.out
        · obtain rfl : j = nr := by omega
          rw [HFR.out] at HALLR HZS
          have HP := Lib.hid (HYES.out wr (.slice a0 zs.length cc0) (HRR.out.2 ⟨HH.out.1, HH.out.2, ⟨c1, HALLP.out⟩, c2, HALLR.out⟩) (by
            rw [show bs = zs by rw [HBY3.out, HZS.out, HZ10.out]]
            refine owns_u8s HO.out (fun y hy => ?_)
            rw [HZS.out] at hy
            rcases List.mem_append.1 hy with h | h
            · exact HLT10.out y h
            · exact LQ.rb_lt rs HRL.out y h) (Gr.ext_trans HX1.out HWX.out))
          generalize zs.length = zsl at *
          go_wp2
          exact HP.out
end Go.Proofs.Ytdbdnfjgmdkneaa
namespace Go.Proofs.Ytdbdnfjgmdkneaa
set_option maxRecDepth 20000
open Go.RowKit Go.Deep
set_option linter.unusedVariables false
theorem l8size : (Try.prog.info? 83).map (·.size) = some 8 := by kernel_rfl
theorem wpList_store_l8 {ops : Array Oper} {rest : List Oper} {o : Oper} {a : Act} {w : World} {Q : Exit → Act → World → Prop} (hgd : o.guard = none) (x y : Operand) (ho : o.op = .store 83 x y)
    (b : Nat) (l l' : List Value) (hx : a.eval x = .pointer (some ⟨b, 0, none⟩)) (hy : a.eval y = .agg l'.toArray) (hA : L8 w b l) (hl : l.length = 8) (hl' : l'.length = 8) (hs : ∀ v ∈ l', v.oneCell' = true)
    (h : ∀ w', L8 w' b l' → w.grownBy w' (some b) → wpList Try.prog ops Q rest (a.put o.dst undef) w') : wpList Try.prog ops Q (o :: rest) a w := by
  refine wpList_plain hgd fun K hK => ?_
  have hst := run_storeCells_at Try.prog b 0 83 l' 0 l.toArray w hA (by rw [List.size_toArray]; omega) hs
  simp only [Nat.add_zero, List.take_zero, List.nil_append, hl', Nat.zero_add, show l.drop 8 = [] from List.drop_of_length_le (by omega), List.append_nil] at hst
  have hrun : (storeVar 83 ⟨b, 0, none⟩ (.agg l'.toArray)).run Try.prog w = .ok () (w.setRow b l'.toArray) := by
    have hsz := l8size
    cases hq : Try.prog.info? 83 with
    | none => simp [hq] at hsz
    | some t =>
      have hs' : t.size = 8 := by simpa [hq] using hsz
      simp [storeVar, sizeOf, typeInfo, hq, Value.cells, hl', hs', hst]
  unfold Oper.wp execOp
  simp only [ho, hx, hy, Instr.storeAt, Instr.sureAddr, Sem.run_bind, Sem.run_pure, Result.andThen_ok, hrun]
  exact hK _ _ (h _ (setRow_heap w b _ _ _ _ hA) (grown_setRow _ _ _))
theorem one_z8 : ∀ v ∈ ([.int .i64 0, .int .i64 0, .int .i64 0, .int .i64 0, .int .i64 0, .int .i64 0, .slice none 0 0, .slice none 0 0] : List Value), v.oneCell' = true := by
  intro v hv
  simp only [List.mem_cons, List.not_mem_nil, or_false] at hv
  rcases hv with rfl | rfl | rfl | rfl | rfl | rfl | rfl | rfl
  all_goals rfl
theorem one_l8 (k f t g p n : Int) (pa : Option Addr) (np pc : Nat) (ra : Option Addr) (nr rc : Nat) : ∀ v ∈ ([.int .i64 k, .int .i64 f, .int .i64 t, .int .i64 g, .int .i64 p, .int .i64 n, .slice pa np pc, .slice ra nr rc] : List Value), v.oneCell' = true := by
  intro v hv
  simp only [List.mem_cons, List.not_mem_nil, or_false] at hv
  rcases hv with rfl | rfl | rfl | rfl | rfl | rfl | rfl | rfl
  all_goals rfl
end Go.Proofs.Ytdbdnfjgmdkneaa
