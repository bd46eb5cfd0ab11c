/- Package wire: Append. -/
import Derived.Test.YtdbdnfjgmdkneaaRecPut
namespace Go.Proofs.Ytdbdnfjgmdkneaa
set_option maxRecDepth 20000
open Go.RowKit Go.Deep
set_option linter.unusedVariables false
/-- A literal of these numbers. -/
def NumAt (w : World) (g : Nat) (ns : List Nat) : Prop := w.heap[g]? = some (.cells (ns.map fun (n : Nat) => Value.int .i64 (n : Int)).toArray 3)
theorem NumAt.kept {w w' : World} {g : Nat} {ns : List Nat} {B : Nat} {v : Value} {k : Nat} {xs : List Value} (h : NumAt w g ns) (ho : w.ownsRow B 5 1 v k xs) (hg : w.grownBy w' v.ownBlock) : NumAt w' g ns := by
  unfold NumAt at *
  rw [hg.block g (Array.getElem?_eq_some_iff.1 h).1 fun e => ?_]
  · exact h
  · rcases ho.2 with ⟨rfl, _⟩ | ⟨g', cap, cur, rfl, hbg, hg', _⟩
    · cases e
    · simp only [Value.ownBlock, Option.some.injEq] at e
      subst e
      rw [h] at hg'
      simp only [Option.some.injEq, Obj.cells.injEq] at hg'
      exact absurd hg'.2.1 (by decide)
theorem NumAt.alloc {w : World} {g : Nat} {ns : List Nat} (h : NumAt w g ns) (o : Obj) : NumAt (w.alloc o) g ns := by
  unfold NumAt at *
  rw [Go.heap_alloc_old _ _ (Array.getElem?_eq_some_iff.1 h).1]; exact h
theorem NumAt.cell {w : World} {g : Nat} {ns : List Nat} (h : NumAt w g ns) {k : Nat} (hk : k < ns.length) : w.cell? ⟨g, k, none⟩ = some (.int .i64 (ns.getD k 0 : Nat)) := by
  rw [cell_of_row _ _ _ _ _ _ h]
  simp [hk]
theorem NumAt.lt {w : World} {g : Nat} {ns : List Nat} (h : NumAt w g ns) : g < w.heap.size := (Array.getElem?_eq_some_iff.1 h).1
namespace KM
/-- Numbers as bytes, one behind the other. -/
def cat (W : Nat) (ns : List Nat) : List Nat := (ns.map (nb W)).flatten
theorem cat_length (W : Nat) : ∀ ns, (cat W ns).length = W * ns.length
  | [] => rfl
  | n :: ns => by
    have := cat_length W ns
    unfold cat at *
    rw [List.map_cons, List.flatten_cons, List.length_append, nb_length, this, List.length_cons, Nat.mul_succ, Nat.add_comm]
theorem cat_snoc (W : Nat) (ns : List Nat) (q : Nat) (h : q < ns.length) : cat W (ns.take q) ++ nb W (ns.getD q 0) = cat W (ns.take (q + 1)) := by
  unfold cat
  rw [List.take_succ_eq_append_getElem h, List.map_append, List.flatten_append]
  simp [h]
end KM
theorem wapp_any (B : Nat) (v : Value) (xs : List Nat) (W : Nat) (ns : List Nat) (g c : Nat) (w : World) (hW : W ≤ 8) (hn : ∀ n ∈ ns, n < 4611686018427387904) (hx : xs.length ≤ 1000000) (hl : ns.length ≤ 1000) (hown : w.ownsRow B 5 1 v xs.length (u8vs xs)) (hB : B ≤ w.heap.size) (hg : NumAt w g ns) :
    Calls Try.prog 58 #[v, .int .i64 W, .slice (some ⟨g, 0, none⟩) ns.length c] w fun e w' => ∃ v', e = .returned v' ∧ w'.ownsRow B 5 1 v' (xs.length + W * ns.length) (u8vs (xs ++ KM.cat W ns)) ∧ Below B w w' := by
  obtain ⟨iu, hiu, hz0, hz1, hz2⟩ := info_parts byteinfo
  have HI := Lib.hid hiu
  have HZ0 := Lib.hid hz0
  have HZ1 := Lib.hid hz1
  have HZ2 := Lib.hid hz2
  have HOWN := Lib.hid hown
  have HB := Lib.hid hB
  have HG := Lib.hid hg
  have HGL := hg.lt
  obtain ⟨lx, hlx⟩ : ∃ lx, lx = xs.length := ⟨_, rfl⟩
  obtain ⟨ln, hln⟩ : ∃ ln, ln = ns.length := ⟨_, rfl⟩
  rw [← hlx] at hx HOWN ⊢
  rw [← hln] at hl ⊢
  have HLX := Lib.hid hlx
  have HLN := Lib.hid hln
  have HNS : Hid (∀ n ∈ ns, n < 4611686018427387904) := hn
  obtain ⟨va, vc, rfl⟩ := owns_slice HOWN.out
  clear hiu hz0 hz1 hz2 hown hB hlx hln hg hn HGL
  go_enter Try.func58, Try.ntmps58
  go_wp2_with fail
  go_loopw [0, 12] (fun s0 s12 wr => ∃ q : Nat, q ≤ ln ∧ s12 = .int .i64 (q : Int) ∧ Hid (wr.ownsRow B 5 1 s0 (lx + W * q) (u8vs (xs ++ KM.cat W (ns.take q)))) ∧ Hid (Below B w wr) ∧ Hid (NumAt wr g ns)) (fun _ s12 _ => (ln - intOf s12).toNat)
  case atStart => exact ⟨0, by omega, by rfl, by rw [List.take_zero, show KM.cat W [] = [] from rfl, List.append_nil]; exact HOWN, Lib.hid (Below.refl _ _), HG⟩
  case round =>
    obtain ⟨q, hq, rfl, HO, HX, HN⟩ := hrel
    obtain ⟨a0, c0, rfl⟩ := owns_slice HO.out
    by_cases h : q < ln
    · have hc := HN.out.cell (show q < ns.length by rw [← HLN.out]; exact h)
      have hnn : ns.getD q 0 < 4611686018427387904 := HNS.out _ (by rw [List.getD_eq_getElem?_getD, List.getElem?_eq_getElem (show q < ns.length by rw [← HLN.out]; exact h)]; exact List.getElem_mem _)
      have HCS := Lib.hid (KM.cat_snoc W ns q (by rw [← HLN.out]; exact h))
      generalize ns.getD q 0 = n at *
      have hgl := HN.out.lt
      obtain ⟨wo, hwo⟩ : ∃ wo, wo = wr := ⟨_, rfl⟩
      subst hwo
      obtain ⟨lo, hlo⟩ : ∃ lo, lo = lx + W * q := ⟨_, rfl⟩
      have hlob : lo ≤ 1008000 := by
        have : W * q ≤ 8 * 1000 := Nat.mul_le_mul hW (by omega)
        omega
      rw [← hlo] at HO ⊢
      have HLO := Lib.hid hlo
      obtain ⟨ys, hys⟩ : ∃ ys, ys = xs ++ KM.cat W (ns.take q) := ⟨_, rfl⟩
      rw [← hys] at HO
      have HYS := Lib.hid hys
      clear hlo hys
      go_wp2_with fail
      go_loopw [0, 9] (fun s0 s9 wr => ∃ p : Nat, p ≤ W ∧ s9 = .int .i64 ((p : Int) - 1) ∧ Hid (wr.ownsRow B 5 1 s0 (lo + (W - p)) (u8vs (ys ++ (KM.nb W n).take (W - p)))) ∧ Hid (Below B w wr) ∧ Hid (NumAt wr g ns)) (fun _ s9 _ => (intOf s9 + 1).toNat)
      case atStart => exact ⟨W, by omega, by rfl, by rw [Nat.sub_self, List.take_zero, List.append_nil]; exact HO, HX, HN⟩
      case round =>
        clear HO HX HN hc
        obtain ⟨p, hp, rfl, HO, HX, HN⟩ := hrel
        obtain ⟨a1, c1, rfl⟩ := owns_slice HO.out
        by_cases h0 : p = 0
        · subst h0
          have HP : Hid (wr.ownsRow B 5 1 (.slice a1 (lo + (W - 0)) c1) (lx + W * (q + 1)) (u8vs (xs ++ KM.cat W (ns.take (q + 1))))) := by
            have ho := HO.out
            rw [List.take_of_length_le (l := KM.nb W n) (by rw [KM.nb_length]; omega), HYS.out, List.append_assoc, HCS.out] at ho
            rw [Nat.mul_succ, ← Nat.add_assoc, ← HLO.out]
            exact ho
          go_wp2
          go_roundw
          case rel => exact ⟨q + 1, by omega, by go_num, HP, HX, HN⟩
          case measure => simp [intOf]; omega
        · obtain ⟨j, rfl⟩ : ∃ j, p = j + 1 := ⟨p - 1, by omega⟩
          rw [show (((j + 1 : Nat) : Int) - 1) = (j : Int) by omega]
          have hshr := shr_bytes n j
          obtain ⟨m, hm⟩ : ∃ m, m = n / 256 ^ j % 256 := ⟨_, rfl⟩
          have hm2 : m < 256 := hm ▸ Nat.mod_lt _ (by decide)
          have hmod : (n : Int) / 256 ^ j % 256 = (m : Int) := by
            rw [hm, Int.natCast_emod, Int.natCast_ediv, Int.natCast_pow]; rfl
          have HM := Lib.hid hm
          have HBW : B ≤ wr.heap.size := Nat.le_trans HB.out HX.out.size
          have HOB : Hid (∀ g, (Value.slice a1 (lo + (W - (j + 1))) c1).ownBlock = some g → B ≤ g) := fun g hg => (HO.out.lt g hg).1
          clear h0 hm
          go_wp2_with (at_builtin; refine wpList_append_own_src _ rfl _ _ 26 26 rfl B 5 iu (.int .u8 0) 1 1 Try.underlying26 HI.out HZ0.out HZ1.out HZ2.out rfl _ _ _ rfl (HO.out.alloc _) _ 1 [.int .u8 m] rfl (src_one Try.underlying26 _ _ rfl rfl) (by unfold maxLen; omega) (by omega) (by simp; omega) ?_)
          intro v' w9 ho9 hg9 _
          have HP : Hid (w9.ownsRow B 5 1 v' (lo + (W - j)) (u8vs (ys ++ (KM.nb W n).take (W - j))) ∧ Below B w w9 ∧ NumAt w9 g ns) := by
            refine ⟨?_, (HX.out.alloc HBW _).grown hg9 (by simp; omega) HOB.out, (HN.out.alloc _).kept (HO.out.alloc _) hg9⟩
            rw [show lo + (W - j) = lo + (W - (j + 1)) + 1 by omega, ← KM.nb_step j W n (by omega), ← HM.out, ← List.append_assoc, u8vs_app1]
            exact ho9
          clear ho9 hg9
          go_wp2
          go_roundw
          case rel => exact ⟨j, by omega, by go_num, Lib.hid HP.out.1, Lib.hid HP.out.2.1, Lib.hid HP.out.2.2⟩
          case measure => simp [intOf]
    · obtain rfl : q = ln := by omega
      have HP : Hid (∃ v', Ending.returned (.slice a0 (lx + W * q) c0) = .returned v' ∧ wr.ownsRow B 5 1 v' (lx + W * q) (u8vs (xs ++ KM.cat W ns)) ∧ Below B w wr) := by
        have ho := HO.out
        rw [List.take_of_length_le (l := ns) (by have := HLN.out; omega)] at ho
        exact ⟨_, rfl, ho, HX.out⟩
      go_wp2
      go_ret
      exact HP.out
theorem wapp_new (B : Nat) (v : Value) (xs : List Nat) (W : Nat) (ns : List Nat) (g c : Nat) (w : World) (hW : W ≤ 8) (hn : ∀ n ∈ ns, n < 4611686018427387904) (hx : xs.length ≤ 1000000) (hl : ns.length ≤ 1000) (hown : w.ownsRow B 5 1 v xs.length (u8vs xs)) (hB : B ≤ w.heap.size) (hg : NumAt w g ns) :
    Calls Try.prog 58 #[v, .int .i64 W, .slice (some ⟨g, 0, none⟩) ns.length c] w (AppOut B w (xs ++ KM.cat W ns)) :=
  (wapp_any B v xs W ns g c w hW hn hx hl hown hB hg).mono fun e w' ⟨v', h1, h2, h3⟩ => by
    rw [show xs.length + W * ns.length = (xs ++ KM.cat W ns).length by rw [List.length_append, KM.cat_length]] at h2
    obtain ⟨a, c, rfl⟩ := owns_slice h2
    exact ⟨a, c, _, h1, rfl, h2, h3⟩
end Go.Proofs.Ytdbdnfjgmdkneaa
