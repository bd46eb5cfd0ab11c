/- In one text: LetWire, LetBytes, SameRecs, Has, LetSame, StoNum, LetLive, LetAsk. -/
import Derived.Handy
import Derived.Lib.Hide
import Derived.WalkKit
import Derived.IntWalk
import Derived.Deep.DeepCutAuto
import Derived.Test.YtdbdnfjgmdkneaaMD1
import Derived.Test.YtdbdnfjgmdkneaaMD2
import Derived.Test.YtdbdnfjgmdkneaaMD4
import Derived.Test.YtdbdnfjgmdkneaaMD7
import Derived.Test.YtdbdnfjgmdkneaaMD9
import Derived.Test.YtdbdnfjgmdkneaaMD11
import Derived.Test.YtdbdnfjgmdkneaaMD13
namespace Go.Proofs.Ytdbdnfjgmdkneaa
set_option maxRecDepth 20000
open Go.RowKit Go.Deep
set_option linter.unusedVariables false
theorem wpList_app_u8 {ops : Array Oper} {rest : List Oper} {o : Oper} {a : Act} {Q : Exit → Act → World → Prop} {w : World} (hgd : o.guard = none) (s x : Operand)
    (ho : o.op = .call { callee := .builtin .append, args := #[s, x], argTypes := #[26, 26] })
    (B : Nat) (v : Value) (n : Nat) (l : List Nat) (hs : a.eval s = v) (hown : w.ownsRow B 5 1 v n (u8vs l)) (y : Value) (m : Nat) (r : List Nat) (hx : a.eval x = y) (hsrc : Src Try.prog 1 26 y m (u8vs r) w)
    (h63 : n + m ≤ 100000000) (hB : B ≤ w.heap.size) (h : ∀ v' w', w'.ownsRow B 5 1 v' (n + m) (u8vs (l ++ r)) → w.grownBy w' v.ownBlock → (v'.ownBlock = v.ownBlock ∨ ∃ g, v'.ownBlock = some g ∧ w.heap.size ≤ g) → wpList Try.prog ops Q rest (a.put o.dst v') w') : wpList Try.prog ops Q (o :: rest) a w := by
  obtain ⟨i, hi, hz0, hz1, hz2⟩ := info_parts byteinfo
  refine wpList_append_own_src3 w hgd s x 26 26 ho B 5 i (.int .u8 0) 1 1 Try.underlying26 hi hz0 hz1 hz2 rfl v n (u8vs l) hs hown y m (u8vs r) hx hsrc (by unfold maxLen; omega) (by omega) hB (fun _ => True) (fun _ _ _ _ _ _ _ _ => trivial) (fun _ _ => trivial) (fun _ _ => trivial) ?_
  intro v' w' ho' hg' hn' _
  exact h v' w' (by rw [u8vs_app1]; exact ho') hg' hn'
/-- The one row is written, and what is new. -/
def Own1 (v : Value) (i : Nat) : Prop := v.ownBlock = some i
/-- It lies where it lay, or in memory made since. -/
def Lies (w : World) (v v' : Value) : Prop := v'.ownBlock = v.ownBlock ∨ ∀ g, v'.ownBlock = some g → w.heap.size ≤ g
theorem Lies.step {w w1 w2 : World} {v u u' : Value} (h : Lies w v u) (hf : Fr (Own1 v) w w1) (hg : w1.grownBy w2 u.ownBlock) (hl : u'.ownBlock = u.ownBlock ∨ ∃ g, u'.ownBlock = some g ∧ w1.heap.size ≤ g) : Lies w v u' ∧ Fr (Own1 v) w w2 := by
  refine ⟨?_, hf.trans (Fr.grown hg fun g e => e) fun i hi e => ?_⟩
  · rcases hl with hl | ⟨g, hl, hs⟩
    · rcases h with h | h
      · exact .inl (hl.trans h)
      · exact .inr fun g e => h g (hl.symm.trans e)
    · refine .inr fun g' e => ?_
      rw [hl] at e
      have := Option.some.inj e
      have := hf.size
      omega
  · rcases h with h | h
    · exact h.symm.trans e
    · have := h i e; omega
theorem wappi_any (B : Nat) (v : Value) (xs : List Nat) (W : Nat) (ns : List Nat) (sa : Option Addr) (c : Nat) (w : World) (hW : W ≤ 8) (hn : ∀ n ∈ ns, n < 4611686018427387904) (hx : xs.length ≤ 1000000) (hl : ns.length ≤ 1000) (hown : w.ownsRow B 5 1 v xs.length (u8vs xs)) (hB : B ≤ w.heap.size)
    (hs : ∀ wr, Below B w wr → Fr (Own1 v) w wr → ∀ q, q < ns.length → ∃ g o, sa = some ⟨g, o, none⟩ ∧ g < wr.heap.size ∧ wr.cell? ⟨g, o + q, none⟩ = some (.int .i64 (ns.getD q 0 : Nat))) :
    Calls Try.prog 58 #[v, .int .i64 W, .slice sa ns.length c] w fun e w' => ∃ v', e = .returned v' ∧ w'.ownsRow B 5 1 v' (xs.length + W * ns.length) (u8vs (xs ++ KM.cat W ns)) ∧ Below B w w' ∧ Fr (Own1 v) w w' ∧ Lies w v v' := by
  obtain ⟨iu, hiu, hz0, hz1, hz2⟩ := info_parts byteinfo
  have HI := Lib.hid hiu
  have HZ0 := Lib.hid hz0
  have HZ1 := Lib.hid hz1
  have HZ2 := Lib.hid hz2
  have HOWN := Lib.hid hown
  have HB := Lib.hid hB
  have HS := Lib.hid hs
  obtain ⟨lx, hlx⟩ : ∃ lx, lx = xs.length := ⟨_, rfl⟩
  obtain ⟨ln, hln⟩ : ∃ ln, ln = ns.length := ⟨_, rfl⟩
  rw [← hlx] at hx HOWN ⊢
  rw [← hln] at hl HS ⊢
  have HLX := Lib.hid hlx
  have HLN := Lib.hid hln
  have HNS : Hid (∀ n ∈ ns, n < 4611686018427387904) := hn
  have HL0 : Hid (Lies w v v) := .inl rfl
  have HF0 : Hid (Fr (Own1 v) w w) := Fr.refl _ _
  have HVB : Hid (∀ g, v.ownBlock = some g → B ≤ g) := fun g hg => (HOWN.out.lt g hg).1
  obtain ⟨va, vc, hva⟩ := owns_slice HOWN.out
  generalize hLL : Lies w v = LL at *
  generalize hFF : Own1 v = FF at *
  have HSTEP : Hid (∀ (w1 w2 : World) (u u' : Value), LL u → Fr FF w w1 → w1.grownBy w2 u.ownBlock → (u'.ownBlock = u.ownBlock ∨ ∃ g, u'.ownBlock = some g ∧ w1.heap.size ≤ g) → LL u' ∧ Fr FF w w2) := fun w1 w2 u u' h1 h2 h3 h4 => by subst hLL; subst hFF; exact h1.step h2 h3 h4
  clear hLL hFF
  subst hva
  clear hiu hz0 hz1 hz2 hown hB hlx hln hn hs
  go_enter Try.func58, Try.ntmps58
  go_wp2_with fail
  go_loopw [0, 12] (fun s0 s12 wr => ∃ q : Nat, q ≤ ln ∧ s12 = .int .i64 (q : Int) ∧ Hid (wr.ownsRow B 5 1 s0 (lx + W * q) (u8vs (xs ++ KM.cat W (ns.take q)))) ∧ Hid (Below B w wr) ∧ Hid (LL s0) ∧ Hid (Fr FF w wr)) (fun _ s12 _ => (ln - intOf s12).toNat)
  case atStart => exact ⟨0, by omega, by rfl, by rw [List.take_zero, show KM.cat W [] = [] from rfl, List.append_nil]; exact HOWN, Lib.hid (Below.refl _ _), HL0, HF0⟩
  case round =>
    obtain ⟨q, hq, rfl, HO, HX, HL, HF⟩ := hrel
    obtain ⟨a0, c0, rfl⟩ := owns_slice HO.out
    by_cases h : q < ln
    · obtain ⟨g, go, rfl, hgl, hc⟩ := HS.out wr HX.out HF.out q h
      have hnn : ns.getD q 0 < 4611686018427387904 := HNS.out _ (by rw [List.getD_eq_getElem?_getD, List.getElem?_eq_getElem (show q < ns.length by rw [← HLN.out]; exact h)]; exact List.getElem_mem _)
      have HCS := Lib.hid (KM.cat_snoc W ns q (by rw [← HLN.out]; exact h))
      generalize ns.getD q 0 = n at *
      obtain ⟨wo, hwo⟩ : ∃ wo, wo = wr := ⟨_, rfl⟩
      subst hwo
      obtain ⟨lo, hlo⟩ : ∃ lo, lo = lx + W * q := ⟨_, rfl⟩
      have hlob : lo ≤ 1008000 := by
        have : W * q ≤ 8 * 1000 := Nat.mul_le_mul hW (by omega)
        omega
      rw [← hlo] at HO HL ⊢
      have HLO := Lib.hid hlo
      obtain ⟨ys, hys⟩ : ∃ ys, ys = xs ++ KM.cat W (ns.take q) := ⟨_, rfl⟩
      rw [← hys] at HO
      have HYS := Lib.hid hys
      clear hlo hys
      go_wp2_with fail
      go_loopw [0, 9] (fun s0 s9 wr => ∃ p : Nat, p ≤ W ∧ s9 = .int .i64 ((p : Int) - 1) ∧ Hid (wr.ownsRow B 5 1 s0 (lo + (W - p)) (u8vs (ys ++ (KM.nb W n).take (W - p)))) ∧ Hid (Below B w wr) ∧ Hid (LL s0) ∧ Hid (Fr FF w wr)) (fun _ s9 _ => (intOf s9 + 1).toNat)
      case atStart => exact ⟨W, by omega, by rfl, by rw [Nat.sub_self, List.take_zero, List.append_nil]; exact HO, HX, HL, HF⟩
      case round =>
        clear HO HX HL HF hc hgl
        obtain ⟨p, hp, rfl, HO, HX, HL, HF⟩ := hrel
        obtain ⟨a1, c1, rfl⟩ := owns_slice HO.out
        by_cases h0 : p = 0
        · subst h0
          have HP : Hid (wr.ownsRow B 5 1 (.slice a1 (lo + (W - 0)) c1) (lx + W * (q + 1)) (u8vs (xs ++ KM.cat W (ns.take (q + 1))))) := by
            have ho := HO.out
            rw [List.take_of_length_le (l := KM.nb W n) (by rw [KM.nb_length]; omega), HYS.out, List.append_assoc, HCS.out] at ho
            rw [Nat.mul_succ, ← Nat.add_assoc, ← HLO.out]
            exact ho
          go_wp2
          go_roundw
          case rel => exact ⟨q + 1, by omega, by go_num, HP, HX, HL, HF⟩
          case measure => simp [intOf]; omega
        · obtain ⟨j, rfl⟩ : ∃ j, p = j + 1 := ⟨p - 1, by omega⟩
          rw [show (((j + 1 : Nat) : Int) - 1) = (j : Int) by omega]
          have hshr := shr_bytes n j
          obtain ⟨m, hm⟩ : ∃ m, m = n / 256 ^ j % 256 := ⟨_, rfl⟩
          have hm2 : m < 256 := hm ▸ Nat.mod_lt _ (by decide)
          have hmod : (n : Int) / 256 ^ j % 256 = (m : Int) := by
            rw [hm, Int.natCast_emod, Int.natCast_ediv, Int.natCast_pow]; rfl
          have HM := Lib.hid hm
          have HBW : B ≤ wr.heap.size := Nat.le_trans HB.out HX.out.size
          have HOB : Hid (∀ g, (Value.slice a1 (lo + (W - (j + 1))) c1).ownBlock = some g → B ≤ g) := fun g hg => (HO.out.lt g hg).1
          clear h0 hm
          go_wp2_with (at_builtin; refine wpList_app_u8 rfl _ _ rfl B _ (lo + (W - (j + 1))) (ys ++ (KM.nb W n).take (W - (j + 1))) rfl (HO.out.alloc _) _ 1 [m] rfl (src_one Try.underlying26 _ _ rfl rfl) (by omega) (by simp; omega) ?_)
          intro v' w9 ho9 hg9 loc
          have HP : Hid (w9.ownsRow B 5 1 v' (lo + (W - j)) (u8vs (ys ++ (KM.nb W n).take (W - j))) ∧ Below B w w9) := by
            refine ⟨?_, (HX.out.alloc HBW _).grown hg9 (by simp; omega) HOB.out⟩
            rw [show lo + (W - j) = lo + (W - (j + 1)) + 1 by omega, ← KM.nb_step j W n (by omega), ← HM.out]
            first | exact ho9 | (rw [← List.append_assoc]; exact ho9)
          have HLF := Lib.hid (HSTEP.out _ w9 _ v' HL.out (HF.out.trans (Fr.ext (ext_alloc wr _)) fun i _ h => h) hg9 (by simpa using loc))
          clear ho9 hg9 loc
          go_wp2
          go_roundw
          case rel => exact ⟨j, by omega, by go_num, Lib.hid HP.out.1, Lib.hid HP.out.2, Lib.hid HLF.out.1, Lib.hid HLF.out.2⟩
          case measure => simp [intOf]
    · obtain rfl : q = ln := by omega
      have HP : Hid (∃ v', Ending.returned (.slice a0 (lx + W * q) c0) = .returned v' ∧ wr.ownsRow B 5 1 v' (lx + W * q) (u8vs (xs ++ KM.cat W ns)) ∧ Below B w wr ∧ Fr FF w wr ∧ LL v') := by
        have ho := HO.out
        rw [List.take_of_length_le (l := ns) (by have := HLN.out; omega)] at ho
        exact ⟨_, rfl, ho, HX.out, HF.out, HL.out⟩
      go_wp2
      go_ret
      exact HP.out
theorem wapp_fr (B : Nat) (v : Value) (xs : List Nat) (W : Nat) (ns : List Nat) (g c : Nat) (w : World) (hW : W ≤ 8) (hn : ∀ n ∈ ns, n < 4611686018427387904) (hx : xs.length ≤ 1000000) (hl : ns.length ≤ 1000) (hown : w.ownsRow B 5 1 v xs.length (u8vs xs)) (hB : B ≤ w.heap.size) (hg : NumAt w g ns) :
    Calls Try.prog 58 #[v, .int .i64 W, .slice (some ⟨g, 0, none⟩) ns.length c] w fun e w' => ∃ a c ys, e = .returned (.slice a ys.length c) ∧ ys = xs ++ KM.cat W ns ∧ w'.ownsRow B 5 1 (.slice a ys.length c) ys.length (u8vs ys) ∧ Below B w w' ∧ Fr (Own1 v) w w' := by
  have hne : ¬ Own1 v g := fun e => by
    rcases hown.2 with ⟨rfl, _⟩ | ⟨g', cap, cur, rfl, hbg, hg', _⟩
    · cases e
    · have := Option.some.inj e
      subst this
      unfold NumAt at hg
      rw [hg] at hg'
      simp only [Option.some.injEq, Obj.cells.injEq] at hg'
      exact absurd hg'.2.1 (by decide)
  refine (wappi_any B v xs W ns (some ⟨g, 0, none⟩) c w hW hn hx hl hown hB fun wr _ hf q hq => ⟨g, 0, rfl, Nat.lt_of_lt_of_le hg.lt hf.size, ?_⟩).mono ?_
  · have := hg.cell hq
    rw [World.cell?_of_block (w := w) (w' := wr) (a := ⟨g, 0 + q, none⟩) (hf.away g hg.lt hne), Nat.zero_add]
    exact this
  · rintro e w' ⟨v', h1, h2, h3, h4, _⟩
    rw [show xs.length + W * ns.length = (xs ++ KM.cat W ns).length by rw [List.length_append, KM.cat_length]] at h2
    obtain ⟨a, c, rfl⟩ := owns_slice h2
    exact ⟨a, c, _, h1, rfl, h2, h3, h4⟩
theorem U8s.off {w w' : World} {D : Nat → Prop} {u : Value} {xs : List Nat} (h : U8s w u xs) (hf : Fr D w w') (hd : ∀ g, u.ownBlock = some g → ¬ D g) : U8s w' u xs := by
  rcases h with h | ⟨b, off, cap, rfl, h1, h2, h3, h4, h5⟩
  · exact .inl h
  · have hb := hf.away b h3 (hd b rfl)
    refine .inr ⟨b, off, cap, rfl, h1, h2, Nat.lt_of_lt_of_le h3 hf.size, fun k hk => ?_, h5⟩
    rw [World.cell?_of_block (w := w) (w' := w') (a := ⟨b, off + k, none⟩) hb]
    exact h4 k hk
theorem cat_pb (ps : List Int) : KM.cat 4 (ps.map Int.toNat) = LQ.pb ps := by
  unfold KM.cat LQ.pb
  rw [List.map_map]; rfl
/-- Of a letter's peers. -/
theorem wapp_peers (B : Nat) (v pv : Value) (xs : List Nat) (ps : List Int) (w0 w : World) (hp : ∀ x ∈ ps, LQ.N31 x) (hx : xs.length ≤ 1000000) (hl : ps.length ≤ 1000) (hown : w.ownsRow B 5 1 v xs.length (u8vs xs)) (hB : B ≤ w.heap.size) (hw0 : B = w0.heap.size) (hi : Ints w0 pv ps) (hb : Below B w0 w) :
    Calls Try.prog 58 #[v, .int .i64 4, pv] w (AppOut B w (xs ++ LQ.pb ps)) := by
  obtain ⟨a, c, rfl, _⟩ := hi.slice
  have hc := hi.cell.2
  have h := wappi_any B v xs 4 (ps.map Int.toNat) a c w (by omega) (fun n hn => by
    obtain ⟨x, hx, rfl⟩ := List.mem_map.1 hn
    have := hp x hx
    have := this.2
    omega) hx (by rw [List.length_map]; exact hl) hown hB (fun wr hbr _ q hq => by
    rw [List.length_map] at hq
    obtain ⟨b, o, rfl, hlt, hcell⟩ := hc (by omega)
    have hblk := (hb.trans hbr).block b (by omega)
    refine ⟨b, o, rfl, Nat.lt_of_lt_of_le hlt (hb.trans hbr).size, ?_⟩
    rw [World.cell?_of_block (w := w0) (w' := wr) (a := ⟨b, o + q, none⟩) hblk, hcell q hq]
    have hn := hp (ps.getD q 0) (by rw [List.getD_eq_getElem?_getD, List.getElem?_eq_getElem hq]; exact List.getElem_mem _)
    have e : (ps.map Int.toNat).getD q 0 = (ps.getD q 0).toNat := by simp [hq]
    rw [e, Int.toNat_of_nonneg hn.1])
  rw [List.length_map] at h
  refine h.mono ?_
  rintro e w' ⟨v', h1, h2, h3, _⟩
  rw [cat_pb] at h2
  rw [show xs.length + 4 * ps.length = (xs ++ LQ.pb ps).length by rw [List.length_append, LQ.pb_length]] at h2
  obtain ⟨a', c', rfl⟩ := owns_slice h2
  exact ⟨a', c', _, h1, rfl, h2, h3⟩
end Go.Proofs.Ytdbdnfjgmdkneaa
namespace Go.Proofs.Ytdbdnfjgmdkneaa
set_option maxRecDepth 20000
open Go.RowKit Go.Deep
set_option linter.unusedVariables false
namespace LQ
/-- The bytes, as they are put together. -/
theorem bytes_put (k f t g p n : Nat) (ps : List Int) (rs : List Rc) : bytes ⟨k, f, t, g, p, n, ps, rs⟩ = [] ++ KM.cat 1 [k] ++ KM.cat 4 [f, t, g, p, n] ++ KM.cat 1 [ps.length] ++ pb ps ++ KM.cat 1 [rs.length] ++ rb rs := by
  simp [bytes, head, KM.cat]
end LQ
theorem lright_yes (l : Lt) (vp vr : Value) (w : World) (hv : LetV w vp vr l) (h : LQ.Right l) :
    Calls Try.prog 79 #[l.val vp vr] w fun e w' => e = .returned (.bool true) ∧ w.Extends w' :=
  (lright_any l vp vr w hv).mono fun e w' ⟨x, h1, h2, h3⟩ => ⟨by rw [h1, h2.2 h], h3⟩
theorem lright_no (l : Lt) (vp vr : Value) (w : World) (hv : LetV w vp vr l) (h : ¬ LQ.Right l) :
    Calls Try.prog 79 #[l.val vp vr] w fun e w' => e = .returned (.bool false) ∧ w.Extends w' :=
  (lright_any l vp vr w hv).mono fun e w' ⟨x, h1, h2, h3⟩ => ⟨by cases x with
    | true => exact absurd (h2.1 rfl) h
    | false => exact h1, h3⟩
theorem lbytes_no (l : Lt) (vp vr : Value) (w : World) (hv : LetV w vp vr l) (h : ¬ LQ.Right l) :
    Calls Try.prog 49 #[l.val vp vr] w (MadeBytes w []) := by
  have HR : Hid (∀ w', w.Extends w' → Calls Try.prog 79 #[l.val vp vr] w' fun e w2 => e = .returned (.bool false) ∧ w'.Extends w2) := fun w' hx => lright_no l vp vr w' (hv.ext hx) h
  obtain ⟨pa, pc, ra, rc, rfl, rfl⟩ := hv.parts
  clear h hv
  obtain ⟨k, f, t, g, p, n, ps, rs⟩ := l
  simp only at HR ⊢
  generalize ps.length = np at *
  generalize rs.length = nr at *
  have HR2 : Hid (∀ w', w.Extends w' → Calls Try.prog 79 #[.agg #[.int .i64 k, .int .i64 f, .int .i64 t, .int .i64 g, .int .i64 p, .int .i64 n, .slice pa np pc, .slice ra nr rc]] w' fun e w2 => e = .returned (.bool false) ∧ w'.Extends w2) := HR.out
  clear HR
  show Calls Try.prog 49 #[.agg #[.int .i64 k, .int .i64 f, .int .i64 t, .int .i64 g, .int .i64 p, .int .i64 n, .slice pa np pc, .slice ra nr rc]] w _
  go_enter Try.func49, Try.ntmps49
  go_wp2_with fail
  generalize hw1 : World.alloc w _ = w1
  have HX1 : Hid (w.Extends w1) := by subst hw1; exact ext_alloc _ _
  clear hw1
  refine (HR2.out w1 HX1.out).mono ?_
  rintro e w2 ⟨rfl, hx⟩
  have HP : Hid (MadeBytes w [] (.returned (.slice none 0 0)) w2) := ⟨_, rfl, nil_u8s _ _ _, Gr.ext_trans HX1.out hx⟩
  clear hx HX1
  go_wp2
  go_ret
  exact HP.out
set_option maxHeartbeats 4000000 in
theorem lbytes_yes (l : Lt) (vp vr : Value) (w : World) (hv : LetV w vp vr l) (h : LQ.Right l) :
    Calls Try.prog 49 #[l.val vp vr] w (MadeBytes w (LQ.bytes l)) := by
  have HRI : Hid (∀ w', w.Extends w' → Calls Try.prog 79 #[l.val vp vr] w' fun e w2 => e = .returned (.bool true) ∧ w'.Extends w2) := fun w' hx => lright_yes l vp vr w' (hv.ext hx) h
  obtain ⟨pa, pc, ra, rc, rfl, rfl⟩ := hv.parts
  have HPI := Lib.hid hv.1
  have HRS := Lib.hid hv.2
  obtain ⟨⟨h1, h2⟩, ⟨⟨f1, f2⟩, ⟨t1, t2⟩, ⟨g1, g2⟩, ⟨p1, p2⟩, ⟨n1, n2⟩⟩, ⟨c1, c2⟩, d1, d2⟩ := h
  obtain ⟨k, f, t, g, p, n, ps, rs⟩ := l
  simp only at *
  obtain ⟨k, rfl⟩ := Int.eq_ofNat_of_zero_le (show 0 ≤ k by omega)
  obtain ⟨f, rfl⟩ := Int.eq_ofNat_of_zero_le f1
  obtain ⟨t, rfl⟩ := Int.eq_ofNat_of_zero_le t1
  obtain ⟨g, rfl⟩ := Int.eq_ofNat_of_zero_le g1
  obtain ⟨p, rfl⟩ := Int.eq_ofNat_of_zero_le p1
  obtain ⟨n, rfl⟩ := Int.eq_ofNat_of_zero_le n1
  obtain ⟨iu, hiu, hz0, hz1, hz2⟩ := info_parts byteinfo
  have HI := Lib.hid hiu
  have HZ0 := Lib.hid hz0
  have HZ1 := Lib.hid hz1
  have HZ2 := Lib.hid hz2
  clear hiu hz0 hz1 hz2
  have HBY := Lib.hid (LQ.bytes_put k f t g p n ps rs)
  have HNN : Hid (k < 4611686018427387904 ∧ f < 4611686018427387904 ∧ t < 4611686018427387904 ∧ g < 4611686018427387904 ∧ p < 4611686018427387904 ∧ n < 4611686018427387904) := by show _ ∧ _; omega
  have HPS : Hid (∀ x ∈ ps, LQ.N31 x) := c2
  have HRR : Hid (∀ r ∈ rs, KM.Right r) := d2
  clear h1 h2 f1 f2 t1 t2 g1 g2 p1 p2 n1 n2 hv c2 d2
  generalize LQ.bytes _ = bs at *
  obtain ⟨np, hnp⟩ : ∃ np, np = ps.length := ⟨_, rfl⟩
  obtain ⟨nr, hnr⟩ : ∃ nr, nr = rs.length := ⟨_, rfl⟩
  rw [← hnp] at HPI HRI c1 HBY ⊢
  rw [← hnr] at HRS HRI d1 HBY ⊢
  have HNP := Lib.hid hnp
  have HNR := Lib.hid hnr
  have HR2 : Hid (∀ w', w.Extends w' → Calls Try.prog 79 #[.agg #[.int .i64 k, .int .i64 f, .int .i64 t, .int .i64 g, .int .i64 p, .int .i64 n, .slice pa np pc, .slice ra nr rc]] w' fun e w2 => e = .returned (.bool true) ∧ w'.Extends w2) := HRI.out
  clear hnp hnr HRI
  show Calls Try.prog 49 #[.agg #[.int .i64 k, .int .i64 f, .int .i64 t, .int .i64 g, .int .i64 p, .int .i64 n, .slice pa np pc, .slice ra nr rc]] w _
  go_enter Try.func49, Try.ntmps49
  go_wp2_with fail
  generalize hw1 : World.alloc w _ = w1
  have hx1 : w.Extends w1 := by subst hw1; exact ext_alloc _ _
  have hl1 : L8 w1 w.heap.size [.int .i64 k, .int .i64 f, .int .i64 t, .int .i64 g, .int .i64 p, .int .i64 n, .slice pa np pc, .slice ra nr rc] := by subst hw1; exact heap_alloc_new _ _
  generalize w.heap.size = x at *
  have HX1 := Lib.hid hx1
  have HL1 := Lib.hid hl1
  clear hw1 hx1 hl1
  refine (HR2.out w1 HX1.out).mono ?_
  rintro e' w2 ⟨rfl, hx⟩
  have HX2 := Lib.hid (Gr.ext_trans HX1.out hx)
  have HL2 := Lib.hid (HL1.out.ext hx)
  clear hx HX1 HL1 HR2
  obtain ⟨B, hB⟩ : ∃ B, B = w2.heap.size := ⟨_, rfl⟩
  have HBE : Hid (B = w2.heap.size) := hB
  have HE : Hid (∀ w', Below B w2 w' → w2.Extends w') := fun w' h => ext_below h hB
  have HB2 : Hid (Below B w2 w2) := Below.refl _ _
  have HBS2 : Hid (B ≤ w2.heap.size) := Nat.le_of_eq hB
  have HO2 : Hid (w2.ownsRow B 5 1 (.slice none 0 0) ([] : List Nat).length (u8vs [])) := World.ownsRow_nil w2 B 5 1
  have HPI2 : Hid (Ints w2 (.slice pa np pc) ps) := HPI.out.ext HX2.out
  have HRS2 : Hid (Recs w2 (.slice ra nr rc) rs) := HRS.out.ext HX2.out
  have hxB : x < B := by rw [hB]; exact HL2.out.lt
  clear hB HPI HRS

  have hl8 := HL2.out.ext (HE.out w2 HB2.out)
  obtain ⟨q0, q1, q2, q3, q4, q5, q6, q7⟩ := hl8.all
  have hbq : x < w2.heap.size := Nat.lt_of_lt_of_le hxB HBS2.out
  clear hl8
  go_wp2_with fail
  clear q0 q1 q2 q3 q4 q5 q6 q7 hbq
  generalize hw3 : World.alloc w2 _ = w3
  have hn3 : NumAt w3 w2.heap.size [k] := by subst hw3; exact NumAt.new _ _ _ _ rfl rfl
  have hx3 : w2.Extends w3 := by subst hw3; exact ext_alloc _ _
  have HB3 : Hid (Below B w2 w3) := by subst hw3; exact HB2.out.alloc HBS2.out _
  have HBS3 : Hid (B ≤ w3.heap.size) := Nat.le_trans HBS2.out hx3.size
  have HO3 := Lib.hid (owns_ext HO2.out hx3)
  clear hw3 hx3 HB2 HO2
  obtain ⟨y3, hy3⟩ : ∃ y, y = w2.heap.size := ⟨_, rfl⟩
  rw [← hy3] at hn3 ⊢
  clear hy3
  refine (wapp_new B _ [] 1 [k] y3 1 w3 (by omega) (by simp only [List.mem_cons, List.not_mem_nil, or_false, forall_eq]; have := HNN.out; omega) (by simp) (by simp) HO3.out HBS3.out hn3).mono ?_
  rintro e' w4 ⟨a4, c4, z4, rfl, hz4, ho4, hb4⟩
  have HZ4 : Hid (z4 = [] ++ KM.cat 1 [k]) := hz4
  have HQ4 : Hid (z4.length ≤ 1500) := by show _ ≤ _; rw [hz4, List.length_append, KM.cat_length]; show 0 + 1 * 1 ≤ 1500; omega
  have HT4 : Hid (z4.length = 1) := by show _ = _; rw [hz4, List.length_append, KM.cat_length]; rfl
  have HB4 : Hid (Below B w2 w4) := HB3.out.trans hb4
  have HBS4 : Hid (B ≤ w4.heap.size) := Nat.le_trans HBS3.out hb4.size
  have HO4 := Lib.hid ho4
  clear ho4 hb4 HB3 HO3 hz4
  clear hn3
  have hl8 := HL2.out.ext (HE.out w4 HB4.out)
  obtain ⟨q0, q1, q2, q3, q4, q5, q6, q7⟩ := hl8.all
  have hbq : x < w4.heap.size := Nat.lt_of_lt_of_le hxB HBS4.out
  clear hl8
  go_wp2_with fail
  clear q0 q1 q2 q3 q4 q5 q6 q7 hbq
  generalize hw5 : World.alloc w4 _ = w5
  have hn5 : NumAt w5 w4.heap.size [f, t, g, p, n] := by subst hw5; exact NumAt.new _ _ _ _ rfl rfl
  have hx5 : w4.Extends w5 := by subst hw5; exact ext_alloc _ _
  have HB5 : Hid (Below B w2 w5) := by subst hw5; exact HB4.out.alloc HBS4.out _
  have HBS5 : Hid (B ≤ w5.heap.size) := Nat.le_trans HBS4.out hx5.size
  have HO5 := Lib.hid (owns_ext HO4.out hx5)
  clear hw5 hx5 HB4 HO4
  obtain ⟨y5, hy5⟩ : ∃ y, y = w4.heap.size := ⟨_, rfl⟩
  rw [← hy5] at hn5 ⊢
  clear hy5
  refine (wapp_new B _ z4 4 [f, t, g, p, n] y5 5 w5 (by omega) (by simp only [List.mem_cons, List.not_mem_nil, or_false, forall_eq_or_imp, forall_eq]; have := HNN.out; omega) (by have := HQ4.out; omega) (by simp) HO5.out HBS5.out hn5).mono ?_
  rintro e' w6 ⟨a6, c6, z6, rfl, hz6, ho6, hb6⟩
  have HZ6 : Hid (z6 = z4 ++ KM.cat 4 [f, t, g, p, n]) := hz6
  have HQ6 : Hid (z6.length ≤ 1500) := by show _ ≤ _; rw [hz6, List.length_append, KM.cat_length]; have := HT4.out; (try simp only [List.length_cons, List.length_nil]); omega
  have HT6 : Hid (z6.length = 21) := by show _ = _; rw [hz6, List.length_append, KM.cat_length]; have := HT4.out; (try simp only [List.length_cons, List.length_nil]); omega
  have HB6 : Hid (Below B w2 w6) := HB5.out.trans hb6
  have HBS6 : Hid (B ≤ w6.heap.size) := Nat.le_trans HBS5.out hb6.size
  have HO6 := Lib.hid ho6
  clear ho6 hb6 HB5 HO5 hz6
  clear hn5
  have hl8 := HL2.out.ext (HE.out w6 HB6.out)
  obtain ⟨q0, q1, q2, q3, q4, q5, q6, q7⟩ := hl8.all
  have hbq : x < w6.heap.size := Nat.lt_of_lt_of_le hxB HBS6.out
  clear hl8
  go_wp2_with fail
  clear q0 q1 q2 q3 q4 q5 q6 q7 hbq
  generalize hw7 : World.alloc w6 _ = w7
  have hn7 : NumAt w7 w6.heap.size [np] := by subst hw7; exact NumAt.new _ _ _ _ rfl rfl
  have hx7 : w6.Extends w7 := by subst hw7; exact ext_alloc _ _
  have HB7 : Hid (Below B w2 w7) := by subst hw7; exact HB6.out.alloc HBS6.out _
  have HBS7 : Hid (B ≤ w7.heap.size) := Nat.le_trans HBS6.out hx7.size
  have HO7 := Lib.hid (owns_ext HO6.out hx7)
  clear hw7 hx7 HB6 HO6
  obtain ⟨y7, hy7⟩ : ∃ y, y = w6.heap.size := ⟨_, rfl⟩
  rw [← hy7] at hn7 ⊢
  clear hy7
  refine (wapp_new B _ z6 1 [np] y7 1 w7 (by omega) (by simp only [List.mem_cons, List.not_mem_nil, or_false, forall_eq]; omega) (by have := HQ6.out; omega) (by simp) HO7.out HBS7.out hn7).mono ?_
  rintro e' w8 ⟨a8, c8, z8, rfl, hz8, ho8, hb8⟩
  have HZ8 : Hid (z8 = z6 ++ KM.cat 1 [np]) := hz8
  have HQ8 : Hid (z8.length ≤ 1500) := by show _ ≤ _; rw [hz8, List.length_append, KM.cat_length]; have := HT6.out; (try simp only [List.length_cons, List.length_nil]); omega
  have HT8 : Hid (z8.length = 22) := by show _ = _; rw [hz8, List.length_append, KM.cat_length]; have := HT6.out; (try simp only [List.length_cons, List.length_nil]); omega
  have HB8 : Hid (Below B w2 w8) := HB7.out.trans hb8
  have HBS8 : Hid (B ≤ w8.heap.size) := Nat.le_trans HBS7.out hb8.size
  have HO8 := Lib.hid ho8
  clear ho8 hb8 HB7 HO7 hz8
  clear hn7
  have hl8 := HL2.out.ext (HE.out w8 HB8.out)
  obtain ⟨q0, q1, q2, q3, q4, q5, q6, q7⟩ := hl8.all
  have hbq : x < w8.heap.size := Nat.lt_of_lt_of_le hxB HBS8.out
  clear hl8
  go_wp2_with fail
  clear q0 q1 q2 q3 q4 q5 q6 q7 hbq
  refine (wapp_peers B _ (.slice pa np pc) z8 ps w2 w8 HPS.out (by have := HQ8.out; omega) (by rw [← HNP.out]; omega) HO8.out HBS8.out HBE.out HPI2.out HB8.out).mono ?_
  rintro e' w9 ⟨a9, c9, z9, rfl, hz9, ho9, hb9⟩
  have HZ9 : Hid (z9 = z8 ++ LQ.pb ps) := hz9
  have HQ9 : Hid (z9.length ≤ 1500) := by show _ ≤ _; rw [hz9, List.length_append, LQ.pb_length, ← HNP.out]; have := HT8.out; (try simp only [List.length_cons, List.length_nil]); omega
  have HT9 : Hid (z9.length = 22 + 4 * np) := by show _ = _; rw [hz9, List.length_append, LQ.pb_length, ← HNP.out]; have := HT8.out; (try simp only [List.length_cons, List.length_nil]); omega
  have HB9 : Hid (Below B w2 w9) := HB8.out.trans hb9
  have HBS9 : Hid (B ≤ w9.heap.size) := Nat.le_trans HBS8.out hb9.size
  have HO9 := Lib.hid ho9
  clear ho9 hb9 HB8 HO8 hz9
  have hl8 := HL2.out.ext (HE.out w9 HB9.out)
  obtain ⟨q0, q1, q2, q3, q4, q5, q6, q7⟩ := hl8.all
  have hbq : x < w9.heap.size := Nat.lt_of_lt_of_le hxB HBS9.out
  clear hl8
  go_wp2_with fail
  clear q0 q1 q2 q3 q4 q5 q6 q7 hbq
  generalize hw10 : World.alloc w9 _ = w10
  have hn10 : NumAt w10 w9.heap.size [nr] := by subst hw10; exact NumAt.new _ _ _ _ rfl rfl
  have hx10 : w9.Extends w10 := by subst hw10; exact ext_alloc _ _
  have HB10 : Hid (Below B w2 w10) := by subst hw10; exact HB9.out.alloc HBS9.out _
  have HBS10 : Hid (B ≤ w10.heap.size) := Nat.le_trans HBS9.out hx10.size
  have HO10 := Lib.hid (owns_ext HO9.out hx10)
  clear hw10 hx10 HB9 HO9
  obtain ⟨y10, hy10⟩ : ∃ y, y = w9.heap.size := ⟨_, rfl⟩
  rw [← hy10] at hn10 ⊢
  clear hy10
  refine (wapp_new B _ z9 1 [nr] y10 1 w10 (by omega) (by simp only [List.mem_cons, List.not_mem_nil, or_false, forall_eq]; omega) (by have := HQ9.out; omega) (by simp) HO10.out HBS10.out hn10).mono ?_
  rintro e' w11 ⟨a11, c11, z11, rfl, hz11, ho11, hb11⟩
  have HZ11 : Hid (z11 = z9 ++ KM.cat 1 [nr]) := hz11
  have HQ11 : Hid (z11.length ≤ 1500) := by show _ ≤ _; rw [hz11, List.length_append, KM.cat_length]; have := HT9.out; (try simp only [List.length_cons, List.length_nil]); omega
  have HT11 : Hid (z11.length = 22 + 4 * np + 1) := by show _ = _; rw [hz11, List.length_append, KM.cat_length]; have := HT9.out; (try simp only [List.length_cons, List.length_nil]); omega
  have HB11 : Hid (Below B w2 w11) := HB10.out.trans hb11
  have HBS11 : Hid (B ≤ w11.heap.size) := Nat.le_trans HBS10.out hb11.size
  have HO11 := Lib.hid ho11
  clear ho11 hb11 HB10 HO10 hz11
  clear hn10
  have hl8 := HL2.out.ext (HE.out w11 HB11.out)
  obtain ⟨q0, q1, q2, q3, q4, q5, q6, q7⟩ := hl8.all
  have hbq : x < w11.heap.size := Nat.lt_of_lt_of_le hxB HBS11.out
  clear hl8
  go_wp2_with fail
  clear q0 q1 q2 q3 q4 q5 q6 q7 hbq
  have HZZ : Hid (bs = z11 ++ LQ.rb rs) := by show _ = _; rw [HBY.out, HZ11.out, HZ9.out, HZ8.out, HZ6.out, HZ4.out]
  have HLZ : Hid (∀ y ∈ z11, y < 256) := fun y hy => by
    rw [HZ11.out, HZ9.out, HZ8.out, HZ6.out, HZ4.out] at hy
    simp only [List.mem_append, List.not_mem_nil, false_or] at hy
    rcases hy with (((h | h) | h) | h) | h
    · exact KM.cat_lt _ _ y h
    · exact KM.cat_lt _ _ y h
    · exact KM.cat_lt _ _ y h
    · exact LQ.pb_lt _ y h
    · exact KM.cat_lt _ _ y h
  have HRAT := Lib.hid HRS2.out.at.2
  have HRL := Lib.hid HRS2.out.all_lt
  have HSN : Hid (∀ q, q < nr → rs.take (q + 1) = rs.take q ++ [rs.getD q Rc.zero]) := fun q hq => LQ.take_snoc rs q Rc.zero (by rw [← HNR.out]; exact hq)
  have HMEM : Hid (∀ q, q < nr → rs.getD q Rc.zero ∈ rs) := fun q hq => by rw [List.getD_eq_getElem?_getD, List.getElem?_eq_getElem (by rw [← HNR.out]; exact hq)]; exact List.getElem_mem _
  have HALL : Hid (rs.take nr = rs) := by show _ = _; rw [HNR.out, List.take_length]
  have HLB : Hid (∀ q, q ≤ nr → (z11 ++ LQ.rb (rs.take q)).length ≤ 1500 + 90 * q) := fun q hq => by
    have h1 := LQ.rb_len (rs.take q) fun r hr => HRR.out r (List.mem_of_mem_take hr)
    have h2 := HQ11.out
    rw [List.length_append]
    rw [List.length_take] at h1
    have h3 : min q rs.length ≤ q := Nat.min_le_left _ _
    omega
  have H0 : Hid (w11.ownsRow B 5 1 (.slice a11 z11.length c11) (z11 ++ LQ.rb (rs.take 0)).length (u8vs (z11 ++ LQ.rb (rs.take 0)))) := by
    rw [List.take_zero, LQ.rb_nil, List.append_nil]
    exact HO11.out
  clear HZ4 HZ6 HZ8 HZ9 HZ11 HQ4 HQ6 HQ8 HQ9 HQ11 HT4 HT6 HT8 HT9 HT11 HBY HO11 HNN HPS HPI2 HBS4 HBS6 HBS8 HBS9 HBS3 HBS5 HBS7 HBS10
  generalize z11.length = zl at *
  go_loopw [3, 48] (fun s3 s48 wr => ∃ (q : Nat) (zs : List Nat), q ≤ nr ∧ s48 = .int .i64 (q : Int) ∧ Hid (zs = z11 ++ LQ.rb (rs.take q)) ∧ Hid (wr.ownsRow B 5 1 s3 zs.length (u8vs zs)) ∧ Hid (Below B w2 wr)) (fun _ s48 _ => (nr - intOf s48).toNat)
  case atStart => exact ⟨0, _, by omega, by rfl, rfl, H0, HB11⟩
  case round =>
    clear H0 HB11 HBS11
    obtain ⟨q, zs, hq, rfl, HZS, HO, HX⟩ := hrel
    have HZB : Hid (zs.length ≤ 1500 + 90 * q) := by show _ ≤ _; rw [HZS.out]; exact HLB.out q hq
    have HWX := Lib.hid (HE.out wr HX.out)
    have HBSR : Hid (B ≤ wr.heap.size) := Nat.le_trans HBS2.out HX.out.size
    by_cases h1 : q < nr
    · obtain ⟨rbk, ro, rfl, hrb, hrc⟩ := HRAT.out (by omega)
      obtain ⟨da, dc, hr, hu⟩ := hrc q h1
      have hr := rangeAt_ext hr HWX.out
      have HU := Lib.hid (hu.ext HWX.out)
      have hRq := HRR.out _ (HMEM.out q h1)
      have HSQ := Lib.hid (HSN.out q h1)
      have hlt := HRL.out _ (HMEM.out q h1)
      generalize rs.getD q Rc.zero = r at *
      have HBR : Hid (∀ w', wr.Extends w' → Calls Try.prog 15 #[r.val (.slice da r.d.length dc)] w' (MadeBytesN w' (KM.bytes r))) := fun w' hx => bytes14_new r da dc w' hRq (HU.out.ext hx)
      have HRLEN : Hid ((KM.bytes r).length ≤ 88) := rec_len hRq
      have HZN : Hid (z11 ++ LQ.rb (rs.take (q + 1)) = zs ++ KM.cat 2 [(KM.bytes r).length] ++ KM.bytes r) := by
        show _ = _
        rw [HSQ.out, LQ.rb_snoc, HZS.out, LQ.rb1, List.append_assoc, List.append_assoc]
        simp [KM.cat]
      have HRLT : Hid (∀ x ∈ KM.bytes r, x < 256) := KM.bytes_lt r hlt
      generalize KM.bytes r = br at *
      clear hu hrc hRq hlt HU HSQ
      obtain ⟨rp, rn, rb, rs', rm, rk, re, rg, ru, rd⟩ := r
      obtain ⟨c0, c1, c2, c3, c4, c5, c6, c7, c8, c9⟩ := RCell.ten hr
      simp only at c0 c1 c2 c3 c4 c5 c6 c7 c8 c9
      generalize rd.length = dl at *
      have HBR2 : Hid (∀ w', wr.Extends w' → Calls Try.prog 15 #[.agg #[.int .i64 rp, .int .i64 rn, .int .i64 rb, .int .i64 rs', .int .i64 rm, .int .i64 rk, .int .i64 re, .bool rg, .int .i64 ru, .slice da dl dc]] w' (MadeBytesN w' br)) := HBR.out
      clear HBR
      obtain ⟨a0, cc0, rfl⟩ := owns_slice HO.out
      generalize hzl : zs.length = zsl at *
      have HZL := Lib.hid hzl
      clear hzl
      go_wp2_with fail
      have hbx : (wr.alloc (.cells #[.int .i64 rp, .int .i64 rn, .int .i64 rb, .int .i64 rs', .int .i64 rm, .int .i64 rk, .int .i64 re, .bool rg, .int .i64 ru, .slice da dl dc] 28)).heap[wr.heap.size]? = some (.cells #[.int .i64 rp, .int .i64 rn, .int .i64 rb, .int .i64 rs', .int .i64 rm, .int .i64 rk, .int .i64 re, .bool rg, .int .i64 ru, .slice da dl dc] 28) := heap_alloc_new _ _
      generalize hw1 : World.alloc wr _ = w1 at *
      have hx1 : wr.Extends w1 := by subst hw1; exact ext_alloc _ _
      have HX1 : Hid (Below B w2 w1) := by subst hw1; exact HX.out.alloc HBSR.out _
      have HXX1 := Lib.hid hx1
      have HBX := Lib.hid hbx
      obtain ⟨y, hyn⟩ : ∃ y, y = wr.heap.size := ⟨_, rfl⟩
      rw [← hyn] at HBX ⊢
      clear hyn
      clear hw1 hx1 c0 c1 c2 c3 c4 c5 c6 c7 c8 c9 hbx hr
      have hr10 : R10 w1 y [.int .i64 rp, .int .i64 rn, .int .i64 rb, .int .i64 rs', .int .i64 rm, .int .i64 rk, .int .i64 re, .bool rg, .int .i64 ru, .slice da dl dc] := HBX.out
      have c0 := hr10.cell 0 _ rfl
      have c1 := hr10.cell 1 _ rfl
      have c2 := hr10.cell 2 _ rfl
      have c3 := hr10.cell 3 _ rfl
      have c4 := hr10.cell 4 _ rfl
      have c5 := hr10.cell 5 _ rfl
      have c6 := hr10.cell 6 _ rfl
      have c7 := hr10.cell 7 _ rfl
      have c8 := hr10.cell 8 _ rfl
      have c9 := hr10.cell 9 _ rfl
      have hy := hr10.lt
      clear hr10
      go_wp2_with fail
      clear c0 c1 c2 c3 c4 c5 c6 c7 c8 c9 hy
      refine (HBR2.out w1 HXX1.out).mono ?_
      rintro e' w3 ⟨v3, rfl, hu3, hx3, hn3⟩
      obtain ⟨a3, cc3, rfl, _, _⟩ := hu3.slice
      have HU3 := Lib.hid hu3
      have HNX : Hid (∀ g, (Value.slice a3 br.length cc3).ownBlock = some g → ¬ Own1 (.slice a0 zsl cc0) g) := fun g hg e => by
        have h1 := (HO.out.lt g e).2
        have h2 := hn3 g hg
        have h3 := HXX1.out.size
        omega
      have HO3 := Lib.hid (owns_ext (owns_ext HO.out HXX1.out) hx3)
      have HBS3 : Hid (B ≤ w3.heap.size) := Nat.le_trans HBSR.out (Nat.le_trans HXX1.out.size hx3.size)
      have HX3 : Hid (Below B w2 w3) := HX1.out.trans ⟨hx3.os, hx3.tape, hx3.output, hx3.size, fun i hi => hx3.block i (by have := HXX1.out.size; have := HBSR.out; omega)⟩
      clear hu3 hx3 hn3 HX1 HXX1 HX HO HBR2 HBX HBSR HWX
      obtain ⟨bl, hbl⟩ : ∃ bl, bl = br.length := ⟨_, rfl⟩
      rw [← hbl] at HU3 HZN HRLEN HNX ⊢
      have HBL := Lib.hid hbl
      clear hbl
      have hblb := HRLEN.out
      go_wp2_with fail
      generalize hw4 : World.alloc w3 _ = w4
      have hn4 : NumAt w4 w3.heap.size [bl] := by subst hw4; exact NumAt.new _ _ _ _ rfl rfl
      have hx4 : w3.Extends w4 := by subst hw4; exact ext_alloc _ _
      have HX4 : Hid (Below B w2 w4) := by subst hw4; exact HX3.out.alloc HBS3.out _
      have HBS4 : Hid (B ≤ w4.heap.size) := Nat.le_trans HBS3.out hx4.size
      have HO4 : Hid (w4.ownsRow B 5 1 (.slice a0 zsl cc0) zs.length (u8vs zs)) := by rw [HZL.out]; exact owns_ext HO3.out hx4
      have HU4 := Lib.hid (HU3.out.ext hx4)
      clear hw4 hx4 HX3 HO3 HU3
      generalize w3.heap.size = y4 at *
      refine (wapp_fr B _ zs 2 [bl] y4 1 w4 (by omega) (by simp only [List.mem_cons, List.not_mem_nil, or_false, forall_eq]; omega) (by have := HZB.out; rw [HZL.out]; omega) (by simp) HO4.out HBS4.out hn4).mono ?_
      rintro e' w5 ⟨a5, c5, z5, rfl, hz5, ho5, hb5, hf5⟩
      have HZ5 : Hid (z5 = zs ++ KM.cat 2 [bl]) := hz5
      have HQ5 : Hid (z5.length = zsl + 2) := by show _ = _; rw [hz5, List.length_append, KM.cat_length, HZL.out]; rfl
      have HX5 : Hid (Below B w2 w5) := HX4.out.trans hb5
      have HBS5 : Hid (B ≤ w5.heap.size) := Nat.le_trans HBS4.out hb5.size
      have HO5 := Lib.hid ho5
      have HU5 : Hid (Src Try.prog 1 26 (.slice a3 bl cc3) bl (u8vs br) w5) := by
        have h := (HU4.out.off hf5 HNX.out).src (P := Try.prog) Try.underlying26
        rwa [← HBL.out] at h
      clear ho5 hb5 hf5 hn4 HX4 HO4 hz5 HBS4 HU4
      have HOB : Hid (∀ g, (Value.slice a5 z5.length c5).ownBlock = some g → B ≤ g) := fun g hg => (HO5.out.lt g hg).1
      generalize hl5 : z5.length = l5 at *
      have HL5 := Lib.hid hl5
      clear hl5
      have h5 : l5 ≤ 50000 := by have h1 := HQ5.out; have h2 := HZB.out; omega
      go_wp2_with (at_builtin; refine wpList_app_u8 rfl _ _ rfl B _ l5 z5 rfl HO5.out _ bl br rfl HU5.out (by omega) HBS5.out ?_)
      intro v9 w9 ho9 hg9 loc
      have HX9 : Hid (Below B w2 w9) := HX5.out.grown hg9 HBS5.out HOB.out
      have HO9 : Hid (w9.ownsRow B 5 1 v9 (z5 ++ br).length (u8vs (z5 ++ br))) := by
        rw [List.length_append, ← HBL.out, HL5.out]
        exact ho9
      clear loc
      clear ho9 hg9 HX5 HO5 HU5 HOB h5
      go_wp2
      go_roundw
      case rel => exact ⟨q + 1, z5 ++ br, by omega, by go_num, by show _ = _; rw [HZN.out, HZ5.out], HO9, HX9⟩
      case measure => simp [intOf]; omega
    · obtain rfl : q = nr := by omega
      obtain ⟨a0, cc0, rfl⟩ := owns_slice HO.out
      have HP : Hid (MadeBytes w bs (.returned (.slice a0 zs.length cc0)) wr) := by
        refine ⟨_, rfl, ?_, Gr.ext_trans HX2.out HWX.out⟩
        rw [show bs = zs by rw [HZZ.out, HZS.out, HALL.out]]
        refine owns_u8s HO.out (fun y hy => ?_)
        rw [HZS.out, HALL.out] at hy
        rcases List.mem_append.1 hy with h | h
        · exact HLZ.out y h
        · exact LQ.rb_lt rs HRL.out y h
      generalize zs.length = zsl at *
      go_wp2
      go_ret
      exact HP.out
end Go.Proofs.Ytdbdnfjgmdkneaa
namespace Go.Proofs.Ytdbdnfjgmdkneaa
set_option maxRecDepth 20000
open Go.RowKit Go.Deep
set_option linter.unusedVariables false
set_option maxHeartbeats 1000000 in
theorem same_recs (v v' : Value) (l : List Rc) (w : World) (hv : Recs w v l) (hv' : Recs w v' l) :
    Calls Try.prog 42 #[v, v'] w fun e w' => e = .returned (.bool true) ∧ w.Extends w' := by
  obtain ⟨a, c, rfl⟩ := hv.slice
  obtain ⟨a', c', rfl⟩ := hv'.slice
  have HV := Lib.hid hv.at.2
  have HV' := Lib.hid hv'.at.2
  have hm := hv.len
  unfold maxLen at hm
  clear hv hv'
  generalize l.length = n at *
  go_enter Try.func42, Try.ntmps42
  go_wp2_with fail
  go_loopw [5] (fun i wr => ∃ q : Nat, q ≤ n ∧ i = .int .i64 q ∧ Hid (w.Extends wr)) (fun i _ => (n - intOf i).toNat)
  case atStart => exact ⟨0, by omega, rfl, Lib.hid (Gr.ext_refl _)⟩
  case round =>
    obtain ⟨q, hq, rfl, HX⟩ := hrel
    by_cases h : q < n
    · obtain ⟨b1, o1, rfl, hb1, hc1⟩ := HV.out (by omega)
      obtain ⟨b2, o2, rfl, hb2, hc2⟩ := HV'.out (by omega)
      obtain ⟨ra, rc, hr, hu⟩ := hc1 q h
      obtain ⟨ra', rc', hr', hu'⟩ := hc2 q h
      have hrr := rangeAt_ext hr (Gr.ext_drew HX.out)
      have hrr' := rangeAt_ext hr' (Gr.ext_drew HX.out)
      have HU := Lib.hid (hu.ext (Gr.ext_drew HX.out))
      have HU' := Lib.hid (hu'.ext (Gr.ext_drew HX.out))
      clear hc1 hc2 hr hr' hu hu'
      generalize l.getD q Rc.zero = r at *
      have HSR : Hid (∀ w1, wr.drew.Extends w1 → Calls Try.prog 20 #[r.val (.slice ra r.d.length rc), r.val (.slice ra' r.d.length rc')] w1 fun e w' => e = .returned (.bool true) ∧ w1.Extends w') := fun w1 hx => same_rec r ra ra' rc rc' w1 (HU.out.ext hx) (HU'.out.ext hx)
      obtain ⟨p, n', b, s, m, k, e, g, u, d⟩ := r
      have HT := Lib.hid (RCell.ten hrr)
      have HT' := Lib.hid (RCell.ten hrr')
      clear hrr hrr' HU HU'
      have HSR2 : Hid (∀ w1, wr.drew.Extends w1 → Calls Try.prog 20 #[.agg #[.int .i64 p, .int .i64 n', .int .i64 b, .int .i64 s, .int .i64 m, .int .i64 k, .int .i64 e, .bool g, .int .i64 u, .slice ra d.length rc], .agg #[.int .i64 p, .int .i64 n', .int .i64 b, .int .i64 s, .int .i64 m, .int .i64 k, .int .i64 e, .bool g, .int .i64 u, .slice ra' d.length rc']] w1 fun e w' => e = .returned (.bool true) ∧ w1.Extends w') := HSR.out
      have HCF : Hid (∀ w', wr.drew.Extends w' → (w'.cell? ⟨b1, o1 + q * 10, none⟩ = some (.int .i64 p) ∧ w'.cell? ⟨b1, o1 + q * 10 + 1, none⟩ = some (.int .i64 n') ∧ w'.cell? ⟨b1, o1 + q * 10 + 2, none⟩ = some (.int .i64 b) ∧ w'.cell? ⟨b1, o1 + q * 10 + 3, none⟩ = some (.int .i64 s) ∧ w'.cell? ⟨b1, o1 + q * 10 + 4, none⟩ = some (.int .i64 m) ∧ w'.cell? ⟨b1, o1 + q * 10 + 5, none⟩ = some (.int .i64 k) ∧ w'.cell? ⟨b1, o1 + q * 10 + 6, none⟩ = some (.int .i64 e) ∧ w'.cell? ⟨b1, o1 + q * 10 + 7, none⟩ = some (.bool g) ∧ w'.cell? ⟨b1, o1 + q * 10 + 8, none⟩ = some (.int .i64 u) ∧ w'.cell? ⟨b1, o1 + q * 10 + 9, none⟩ = some (.slice ra d.length rc)) ∧
          (w'.cell? ⟨b2, o2 + q * 10, none⟩ = some (.int .i64 p) ∧ w'.cell? ⟨b2, o2 + q * 10 + 1, none⟩ = some (.int .i64 n') ∧ w'.cell? ⟨b2, o2 + q * 10 + 2, none⟩ = some (.int .i64 b) ∧ w'.cell? ⟨b2, o2 + q * 10 + 3, none⟩ = some (.int .i64 s) ∧ w'.cell? ⟨b2, o2 + q * 10 + 4, none⟩ = some (.int .i64 m) ∧ w'.cell? ⟨b2, o2 + q * 10 + 5, none⟩ = some (.int .i64 k) ∧ w'.cell? ⟨b2, o2 + q * 10 + 6, none⟩ = some (.int .i64 e) ∧ w'.cell? ⟨b2, o2 + q * 10 + 7, none⟩ = some (.bool g) ∧ w'.cell? ⟨b2, o2 + q * 10 + 8, none⟩ = some (.int .i64 u) ∧ w'.cell? ⟨b2, o2 + q * 10 + 9, none⟩ = some (.slice ra' d.length rc'))) := fun w' hw' => by
        obtain ⟨t0, t1, t2, t3, t4, t5, t6, t7, t8, t9⟩ := HT.out
        obtain ⟨s0, s1, s2, s3, s4, s5, s6, s7, s8, s9⟩ := HT'.out
        exact ⟨⟨hw'.cell_of t0, hw'.cell_of t1, hw'.cell_of t2, hw'.cell_of t3, hw'.cell_of t4, hw'.cell_of t5, hw'.cell_of t6, hw'.cell_of t7, hw'.cell_of t8, hw'.cell_of t9⟩, ⟨hw'.cell_of s0, hw'.cell_of s1, hw'.cell_of s2, hw'.cell_of s3, hw'.cell_of s4, hw'.cell_of s5, hw'.cell_of s6, hw'.cell_of s7, hw'.cell_of s8, hw'.cell_of s9⟩⟩
      clear HT HT' HSR
      generalize d.length = dl at *
      go_wp2_with fail
      have HXd := Lib.hid (Gr.ext_drew HX.out)
      clear HX
      refine Gr.region 9 [(false,0),(false,1),(false,2),(false,3),(false,4),(false,5),(false,6),(false,7),(true,8)] (by kernel_rfl) (by kernel_rfl) (fun d _ _ _ _ h => by cases d <;> exact h) ?_
      simp only [Gr.pick, List.getElem?_cons_zero, List.getElem?_cons_succ, List.drop_succ_cons, List.drop_zero]
      generalize wr.drew = w4 at *
      iterate 8
        refine Gr.walk_t ?_ (Or.inl ⟨by rfl, ?_⟩) ?_
        rotate_left
        · intro w' hw'
          obtain ⟨⟨t0, t1, t2, t3, t4, t5, t6, t7, t8, t9⟩, s0, s1, s2, s3, s4, s5, s6, s7, s8, s9⟩ := HCF.out w' hw'
          clear hw'
          go_simp
          try with_reducible rfl
        simp only [Act.put, List.setIfInBounds_toArray, List.set_cons_zero, List.set_cons_succ]
      refine Gr.walk_c (fun K hK => ?_)
      go_simp
      refine (HSR2.out w4 (Gr.ext_refl _)).mono ?_
      rintro e w5 ⟨rfl, hx⟩
      have HX5 := Lib.hid (Gr.ext_trans HXd.out hx)
      try go_simp
      refine hK.out _ _ (hx) ?_
      clear hK K
      clear hx HXd HCF HSR2
      refine Gr.walk_nil ?_
      go_wp2
      go_roundw
      case rel => exact ⟨q + 1, by omega, by go_num, HX5⟩
      case measure => simp [intOf]; omega
    · obtain rfl : q = n := by omega
      go_wp2
      go_ret
      exact ⟨rfl, HX.out⟩
end Go.Proofs.Ytdbdnfjgmdkneaa
namespace Go.Proofs.Ytdbdnfjgmdkneaa
set_option maxRecDepth 20000
open Go.RowKit Go.Deep
set_option linter.unusedVariables false
set_option maxHeartbeats 1000000 in
theorem tsame_any (u v : Value) (l : List Int) (w : World) (hu : Ints w u l) (hv : Ints w v l) :
    Calls Try.prog 81 #[u, v] w fun e w' => e = .returned (.bool true) ∧ w.Extends w' := by
  have hm := hu.len
  obtain ⟨a, cap, rfl, _⟩ := hu.slice
  obtain ⟨a', cap', rfl, _⟩ := hv.slice
  have HU := Lib.hid hu.cell.2
  have HV := Lib.hid hv.cell.2
  clear hu hv
  generalize l.length = n at *
  unfold maxLen at hm
  go_enter Try.func81, Try.ntmps81
  go_wp2
  go_loopw [5] (fun i wr => ∃ k : Nat, k ≤ n ∧ i = .int .i64 k ∧ Hid (w.Extends wr)) (fun i _ => (n - intOf i).toNat)
  case atStart => exact ⟨0, by omega, rfl, Lib.hid (Gr.ext_refl _)⟩
  case round =>
    obtain ⟨k, hk, rfl, HX⟩ := hrel
    by_cases h1 : k < n
    · obtain ⟨b1, o1, rfl, hb1, hc1⟩ := HU.out (by omega)
      obtain ⟨b2, o2, rfl, hb2, hc2⟩ := HV.out (by omega)
      have HL1 : Hid (∀ w', wr.Extends w' → w'.cell? ⟨b1, o1 + k, none⟩ = some (.int .i64 (l.getD k 0))) := fun w' hw' => hw'.cell_of (HX.out.cell_of (hc1 k h1))
      have HL2 : Hid (∀ w', wr.Extends w' → w'.cell? ⟨b2, o2 + k, none⟩ = some (.int .i64 (l.getD k 0))) := fun w' hw' => hw'.cell_of (HX.out.cell_of (hc2 k h1))
      clear hc1 hc2
      generalize l.getD k 0 = x at *
      go_wp2_with fail
      refine Gr.region 8 [(false,0),(false,1),(false,2),(false,3),(false,4),(false,5),(false,6),(false,7)] (by kernel_rfl) (by kernel_rfl) (fun d _ _ _ _ h => by cases d <;> exact h) ?_
      simp only [Gr.pick, List.getElem?_cons_zero, List.getElem?_cons_succ, List.drop_succ_cons, List.drop_zero]
      iterate 8
        refine Gr.walk_t ?_ (Or.inl ⟨by rfl, ?_⟩) ?_
        rotate_left
        · intro w' hw'
          have hc1 := HL1.out w' (Gr.of_drew hw')
          have hc2 := HL2.out w' (Gr.of_drew hw')
          clear hw'
          go_simp
          try with_reducible rfl
        simp only [Act.put, List.setIfInBounds_toArray, List.set_cons_zero, List.set_cons_succ]
      refine Gr.walk_nil ?_
      go_wp2
      go_roundw
      case rel => exact ⟨k + 1, by omega, by go_num, Lib.hid (Gr.ext_drew HX.out)⟩
      case measure => simp [intOf]; omega
    · obtain rfl : k = n := by omega
      go_wp2
      go_ret
      exact ⟨rfl, HX.out⟩
end Go.Proofs.Ytdbdnfjgmdkneaa
namespace Go.Proofs.Ytdbdnfjgmdkneaa
set_option maxRecDepth 20000
open Go.RowKit Go.Deep
set_option linter.unusedVariables false
set_option maxHeartbeats 2000000 in
theorem same_let (l : Lt) (vp vr vp' vr' : Value) (w : World) (h : LetV w vp vr l) (h' : LetV w vp' vr' l) :
    Calls Try.prog 53 #[l.val vp vr, l.val vp' vr'] w fun e w' => e = .returned (.bool true) ∧ w.Extends w' := by
  obtain ⟨pa, pc, ra, rc, rfl, rfl⟩ := h.parts
  obtain ⟨pa', pc', ra', rc', rfl, rfl⟩ := h'.parts
  have HSI : Hid (∀ w', w.Extends w' → Calls Try.prog 81 #[.slice pa l.ps.length pc, .slice pa' l.ps.length pc'] w' fun e w2 => e = .returned (.bool true) ∧ w'.Extends w2) := fun w' hx => tsame_any _ _ l.ps w' (h.1.ext hx) (h'.1.ext hx)
  have HSR : Hid (∀ w', w.Extends w' → Calls Try.prog 42 #[.slice ra l.rs.length rc, .slice ra' l.rs.length rc'] w' fun e w2 => e = .returned (.bool true) ∧ w'.Extends w2) := fun w' hx => same_recs _ _ l.rs w' (h.2.ext hx) (h'.2.ext hx)
  obtain ⟨k, f, t, g, p, n, ps, rs⟩ := l
  simp only at *
  clear h h'
  generalize ps.length = np at *
  generalize rs.length = nr at *
  show Calls Try.prog 53 #[.agg #[.int .i64 k, .int .i64 f, .int .i64 t, .int .i64 g, .int .i64 p, .int .i64 n, .slice pa np pc, .slice ra nr rc], .agg #[.int .i64 k, .int .i64 f, .int .i64 t, .int .i64 g, .int .i64 p, .int .i64 n, .slice pa' np pc', .slice ra' nr rc']] w _
  go_enter Try.func53, Try.ntmps53
  go_upto_region 1 with fail
  generalize hw1 : World.alloc w _ = w1
  generalize hw2 : World.alloc w1 _ = w2
  have hs1 : w1.heap.size = w.heap.size + 1 := by subst hw1; simp
  have hx1 : w.Extends w1 := by subst hw1; exact ext_alloc _ _
  have hx2 : w1.Extends w2 := by subst hw2; exact ext_alloc _ _
  have hb1 : L8 w1 w.heap.size [.int .i64 k, .int .i64 f, .int .i64 t, .int .i64 g, .int .i64 p, .int .i64 n, .slice pa np pc, .slice ra nr rc] := by subst hw1; exact heap_alloc_new _ _
  have hb2 : L8 w2 w1.heap.size [.int .i64 k, .int .i64 f, .int .i64 t, .int .i64 g, .int .i64 p, .int .i64 n, .slice pa' np pc', .slice ra' nr rc'] := by subst hw2; exact heap_alloc_new _ _
  rw [hs1] at hb2
  have HX2 := Lib.hid (Gr.ext_trans hx1 hx2)
  have HB1 := Lib.hid (hb1.ext hx2)
  have HB2 := Lib.hid hb2
  clear hw1 hw2 hb1 hb2 hs1 hx1 hx2
  generalize w.heap.size = x at *
  obtain ⟨a0, a1, a2, a3, a4, a5, a6, a7⟩ := HB1.out.all
  obtain ⟨b0, b1, b2, b3, b4, b5, b6, b7⟩ := HB2.out.all
  have hl1 := HB1.out.lt
  have hl2 := HB2.out.lt
  go_wp2_with fail
  clear a0 a1 a2 a3 a4 a5 a6 a7 b0 b1 b2 b3 b4 b5 b6 b7 hl1 hl2
  refine (HSI.out w2 HX2.out).mono ?_
  rintro e w3 ⟨rfl, hx⟩
  have HX3 := Lib.hid (Gr.ext_trans HX2.out hx)
  obtain ⟨a0, a1, a2, a3, a4, a5, a6, a7⟩ := (HB1.out.ext hx).all
  obtain ⟨b0, b1, b2, b3, b4, b5, b6, b7⟩ := (HB2.out.ext hx).all
  have hl1 := (HB1.out.ext hx).lt
  have hl2 := (HB2.out.ext hx).lt
  clear hx HX2 HB1 HB2
  go_wp2_with fail
  clear a0 a1 a2 a3 a4 a5 a6 a7 b0 b1 b2 b3 b4 b5 b6 b7 hl1 hl2
  refine (HSR.out w3 HX3.out).mono ?_
  rintro e w4 ⟨rfl, hx⟩
  have HX4 := Lib.hid (Gr.ext_trans HX3.out hx)
  clear hx HX3
  go_wp2
  go_ret
  exact ⟨rfl, HX4.out⟩
end Go.Proofs.Ytdbdnfjgmdkneaa
namespace Go.Proofs.Ytdbdnfjgmdkneaa
set_option maxRecDepth 20000
open Go.RowKit Go.Deep
set_option linter.unusedVariables false
/-- Are records few and short enough? -/
def FewL (l : List Rc) : Prop := (∀ r ∈ l, r.d.length ≤ 100) ∧ l.length ≤ 60
instance (l : List Rc) : Decidable (FewL l) := by unfold FewL; infer_instance
set_option maxHeartbeats 1000000 in
theorem few16_any (v : Value) (l : List Rc) (w : World) (h : Recs w v l) :
    Calls Try.prog 25 #[v] w fun e w' => e = .returned (.bool (decide (FewL l))) ∧ w.Extends w' := by
  obtain ⟨a, cap, rfl⟩ := h.slice
  have HLM := h.len
  have HAT : Hid (∀ k, k < l.length → ∃ b off, a = some ⟨b, off, none⟩ ∧ RCell w b (off + k * 10) (l.getD k Rc.zero)) := fun k hk => by
    obtain ⟨_, h2⟩ := h.at
    obtain ⟨b, off, e, _, h3⟩ := h2 (by omega)
    exact ⟨b, off, e, h3 k hk⟩
  have HNO : Hid (∀ k, k < l.length → ¬ (l.getD k Rc.zero).d.length ≤ 100 → decide (FewL l) = false) := fun k hk hn => decide_eq_false fun hf => hn (hf.1 _ (by rw [List.getD_eq_getElem?_getD, List.getElem?_eq_getElem hk]; exact List.getElem_mem hk))
  have HYES : Hid ((∀ k, k < l.length → (l.getD k Rc.zero).d.length ≤ 100) → decide (FewL l) = decide (l.length ≤ 60)) := fun hy => by
    have : FewL l ↔ l.length ≤ 60 := ⟨fun hf => hf.2, fun h6 => ⟨fun r hr => by
      obtain ⟨k, hk, rfl⟩ := List.mem_iff_getElem.1 hr
      have := hy k hk
      rwa [List.getD_eq_getElem?_getD, List.getElem?_eq_getElem hk] at this, h6⟩⟩
    exact decide_eq_decide.2 this
  unfold maxLen at HLM
  clear h
  generalize decide (FewL l) = B at *
  generalize l.length = n at *
  go_enter Try.func25, Try.ntmps25
  go_wp2_with fail
  go_loopw [3] (fun s3 wr => ∃ k : Nat, k ≤ n ∧ s3 = .int .i64 k ∧ Hid (∀ j, j < k → (l.getD j Rc.zero).d.length ≤ 100) ∧ Hid (w.Extends wr)) (fun s3 _ => n - (intOf s3).toNat)
  case atStart => exact ⟨0, by omega, by rfl, Lib.hid (fun j hj => absurd hj (Nat.not_lt_zero _)), Lib.hid (Gr.ext_refl _)⟩
  case round =>
    obtain ⟨k, hk, rfl, HN, HX⟩ := hrel
    by_cases h1 : k < n
    · obtain ⟨b, off, rfl, ua, uc, hr, hu⟩ := HAT.out k h1
      have hr := rangeAt_ext hr HX.out
      have HNK := Lib.hid (HNO.out k h1)
      have HN2 : Hid ((l.getD k Rc.zero).d.length ≤ 100 → ∀ j, j < k + 1 → (l.getD j Rc.zero).d.length ≤ 100) := fun h j hj => by
        by_cases e : j = k
        · subst e; exact h
        · exact HN.out j (by omega)
      clear hu
      generalize l.getD k Rc.zero = p at *
      obtain ⟨xp, xn, xb, xs, xm, xk, xe, xg, xu, xd⟩ := p
      obtain ⟨c0, c1, c2, c3, c4, c5, c6, c7, c8, c9⟩ := RCell.ten hr
      simp only at c0 c1 c2 c3 c4 c5 c6 c7 c8 c9 HNK HN2
      clear hr c0 c1 c2 c3 c4 c5 c6 c7 c8
      generalize xd.length = q at *
      by_cases hq : q ≤ 100
      · have HNN := Lib.hid (HN2.out hq)
        clear HN2 HNK
        go_wp2
        go_roundw
        case rel => exact ⟨k + 1, by omega, by go_num, HNN, HX⟩
        case measure => simp [intOf]; omega
      · have hB := HNK.out hq
        clear HN2 HNK
        subst hB
        go_wp2
        go_ret
        exact ⟨rfl, HX.out⟩
    · obtain rfl : k = n := by omega
      have HB := Lib.hid (HYES.out HN.out)
      by_cases h6 : k ≤ 60
      · have hB : B = true := by rw [HB.out]; exact decide_eq_true h6
        clear HB
        go_wp2
        go_ret
        exact ⟨by rw [hB]; show Ending.returned (.bool (decide ((k : Int) ≤ 60))) = _; rw [decide_eq_true (show (k : Int) ≤ 60 by omega)], HX.out⟩
      · have hB : B = false := by rw [HB.out]; exact decide_eq_false h6
        clear HB
        go_wp2
        go_ret
        exact ⟨by rw [hB]; show Ending.returned (.bool (decide ((k : Int) ≤ 60))) = _; rw [decide_eq_false (show ¬ (k : Int) ≤ 60 by omega)], HX.out⟩
end Go.Proofs.Ytdbdnfjgmdkneaa
namespace Go.Proofs.Ytdbdnfjgmdkneaa
set_option maxRecDepth 20000
open Go.RowKit Go.Deep
set_option linter.unusedVariables false
theorem num22_any (n : Int) (w : World) : Calls Try.prog 54 #[.int .i64 n] w fun e w' => e = .returned (.int .i64 n) ∧ w = w' := by
  go_enter Try.func54, Try.ntmps54
  go_wp2
  go_ret
  exact ⟨rfl, rfl⟩
/-- The letter of the example. -/
def lstone : Lt := ⟨1, 0, 3, 0, 0, 0, [], []⟩
theorem lstone_right : LQ.Right lstone := by
  refine ⟨by decide, ⟨by unfold LQ.N31; decide, by unfold LQ.N31; decide, by unfold LQ.N31; decide, by unfold LQ.N31; decide, by unfold LQ.N31; decide⟩, ⟨by decide, fun x hx => by cases hx⟩, by decide, fun x hx => by cases hx⟩
theorem is_nil : LQ.Is [] LQ.zero 2 := .inr ⟨rfl, rfl, fun l _ h => by have := LQ.bytes_pos l; rw [h] at this; simp at this⟩
theorem lex_nil : ∀ v w, U8s w v [] → Calls Try.prog 50 #[v] w fun e w' => ∃ a c a' c', e = .returned (.tuple #[.agg #[.int .i64 0, .int .i64 0, .int .i64 0, .int .i64 0, .int .i64 0, .int .i64 0, .slice a 0 c, .slice a' 0 c'], .int .i64 2]) ∧ w.Extends w' := by
  intro v w hv
  refine (lread_is v [] w hv (by simp) LQ.zero 2 is_nil).mono ?_
  rintro e w' ⟨vp, vr, rfl, hl, hx⟩
  obtain ⟨a, c, a', c', rfl, rfl⟩ := hl.parts
  exact ⟨a, c, a', c', rfl, hx⟩
theorem lex_bytes : ∀ w, Calls Try.prog 49 #[.agg #[.int .i64 1, .int .i64 0, .int .i64 3, .int .i64 0, .int .i64 0, .int .i64 0, .slice none 0 0, .slice none 0 0]] w (MadeBytes w (LQ.bytes lstone)) := fun w => lbytes_yes lstone (.slice none 0 0) (.slice none 0 0) w ⟨nil_ints _ _ _, Recs.nil _ _ _⟩ lstone_right
theorem lex_read : ∀ v w, U8s w v (LQ.bytes lstone) → Calls Try.prog 50 #[v] w fun e w' => ∃ a c a' c', e = .returned (.tuple #[.agg #[.int .i64 1, .int .i64 0, .int .i64 3, .int .i64 0, .int .i64 0, .int .i64 0, .slice a 0 c, .slice a' 0 c'], .int .i64 0]) ∧ w.Extends w' := by
  intro v w hv
  refine (lread_is v _ w hv (by have := LQ.bytes_len lstone_right; omega) lstone 0 (.inl ⟨rfl, lstone_right, rfl⟩)).mono ?_
  rintro e w' ⟨vp, vr, rfl, hl, hx⟩
  obtain ⟨a, c, a', c', rfl, rfl⟩ := hl.parts
  exact ⟨a, c, a', c', rfl, hx⟩
set_option maxHeartbeats 1000000 in
theorem alive22_any (w : World) : Calls Try.prog 48 #[] w fun e w' => e = .returned (.bool true) ∧ w.Extends w' := by
  have HN := Lib.hid lex_nil
  have HB := Lib.hid lex_bytes
  have HR := Lib.hid lex_read
  go_enter Try.func48, Try.ntmps48
  go_wp2_with fail
  refine (HN.out _ w (nil_u8s _ _ _)).mono ?_
  rintro e w1 ⟨a, c, a', c', rfl, hx⟩
  have HX1 := Lib.hid hx
  clear hx
  go_wp2_with fail
  generalize hw : World.alloc w1 _ = w2
  have hx : w1.Extends w2 := by subst hw; exact ext_alloc _ _
  have HX2 := Lib.hid (Gr.ext_trans HX1.out hx)
  clear hw hx
  refine (HB.out w2).mono ?_
  rintro e w3 ⟨x, rfl, hu, hx⟩
  have HX3 := Lib.hid (Gr.ext_trans HX2.out hx)
  have HU3 := Lib.hid hu
  obtain ⟨xa, xc, rfl, _, _⟩ := hu.slice
  clear hx hu
  go_wp2_with fail
  refine (HR.out _ w3 HU3.out).mono ?_
  rintro e w4 ⟨ya, yc, ya', yc', rfl, hx⟩
  have HX4 := Lib.hid (Gr.ext_trans HX3.out hx)
  clear hx
  go_upto_region 3 with fail
  generalize hw : World.alloc w4 _ = w5
  have hx : w4.Extends w5 := by subst hw; exact ext_alloc _ _
  have hb : L8 w5 w4.heap.size [.int .i64 1, .int .i64 0, .int .i64 3, .int .i64 0, .int .i64 0, .int .i64 0, .slice ya 0 yc, .slice ya' 0 yc'] := by subst hw; exact heap_alloc_new _ _
  obtain ⟨b, hbn⟩ : ∃ b, b = w4.heap.size := ⟨_, rfl⟩
  rw [← hbn] at hb ⊢
  have HX5 := Lib.hid (Gr.ext_trans HX4.out hx)
  clear hw hbn hx
  obtain ⟨t0, t1, t2, t3, t4, t5, t6, t7⟩ := hb.all
  have hbl := hb.lt
  go_wp2_with fail
  refine (num22_any _ w5).mono ?_
  rintro e w' ⟨rfl, rfl⟩
  go_wp2_with fail
  refine (num22_any _ w5).mono ?_
  rintro e w' ⟨rfl, rfl⟩
  go_wp2
  go_ret
  exact ⟨rfl, HX5.out⟩
end Go.Proofs.Ytdbdnfjgmdkneaa
namespace Go.Proofs.Ytdbdnfjgmdkneaa
set_option maxRecDepth 20000
open Go.RowKit Go.Deep
set_option linter.unusedVariables false
/-- Of a letter. -/
structure Asked22 (l : Lt) (X : List Nat) : Prop where
  right : LQ.Right l ∧ X = LQ.bytes l ∨ ¬ LQ.Right l ∧ X = []
  len : X.length ≤ 30000
  lt : ∀ x ∈ X, x < 256
  bp : ∀ vp vr w, LetV w vp vr l → Calls Try.prog 49 #[l.val vp vr] w (MadeBytes w X)
  br : ∀ vp vr w, LetV w vp vr l → Calls Try.prog 52 #[l.val vp vr] w (MadeBytes w X)
theorem rlb_made {l : Lt} {X : List Nat} (h : LQ.Right l ∧ X = LQ.bytes l ∨ ¬ LQ.Right l ∧ X = []) {w w' : World} {e : Ending} (hr : RLB l w e w') : MadeBytes w X e w' := by
  obtain ⟨bs, v, h1, h2, h3, h4⟩ := hr
  have : bs = X := by
    rcases h with ⟨ha, hb⟩ | ⟨ha, hb⟩
    · rcases h4 with ⟨hc, hd⟩ | ⟨hc, hd⟩
      · rw [hb, hd]
      · exact absurd ha hc
    · rcases h4 with ⟨hc, hd⟩ | ⟨hc, hd⟩
      · exact absurd hc ha
      · rw [hb, hd]
  subst this
  exact ⟨v, h1, h2, h3⟩
theorem asked22_let (l : Lt) (hlt : ∀ r ∈ l.rs, ∀ x ∈ r.d, x < 256) : ∃ X, Asked22 l X := by
  by_cases h : LQ.Right l
  · refine ⟨LQ.bytes l, .inl ⟨h, rfl⟩, LQ.bytes_len h, LQ.bytes_lt l hlt, fun vp vr w hv => lbytes_yes l vp vr w hv h, fun vp vr w hv => (rlbytes_any l vp vr w hv).mono fun e w' hr => rlb_made (.inl ⟨h, rfl⟩) hr⟩
  · refine ⟨[], .inr ⟨h, rfl⟩, Nat.zero_le _, fun x hx => (by cases hx), fun vp vr w hv => lbytes_no l vp vr w hv h, fun vp vr w hv => (rlbytes_any l vp vr w hv).mono fun e w' hr => rlb_made (.inr ⟨h, rfl⟩) hr⟩
/-- Of bytes. -/
theorem asked22_read (xs : List Nat) (hn : xs.length ≤ 1000000000) : ∃ L er, LQ.Is xs L er ∧ (∀ v w, U8s w v xs → Calls Try.prog 50 #[v] w (LROut L (er : Nat) w)) ∧ (∀ v w, U8s w v xs → Calls Try.prog 51 #[v] w (LROut L (er : Nat) w)) := by
  obtain ⟨L, er, h⟩ := LQ.is_any xs
  exact ⟨L, er, h, fun v w hv => lread_is v xs w hv hn L er h, fun v w hv => rlread_is v xs w hv hn L er h⟩
/-- A letter's variable. -/
def LV (w : World) (b : Nat) (l : Lt) (pa : Option Addr) (np pc : Nat) (ra : Option Addr) (nr rc : Nat) : Prop := L8 w b [.int .i64 l.k, .int .i64 l.f, .int .i64 l.t, .int .i64 l.g, .int .i64 l.p, .int .i64 l.n, .slice pa np pc, .slice ra nr rc]
theorem LV.ext {w w' : World} {b : Nat} {l : Lt} {pa : Option Addr} {np pc : Nat} {ra : Option Addr} {nr rc : Nat} (h : LV w b l pa np pc ra nr rc) (hx : w.Extends w') : LV w' b l pa np pc ra nr rc := L8.ext h hx
end Go.Proofs.Ytdbdnfjgmdkneaa
