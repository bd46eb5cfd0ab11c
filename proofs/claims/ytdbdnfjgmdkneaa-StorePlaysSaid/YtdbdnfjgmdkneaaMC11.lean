/- In one text: RecBytes, StoInv. -/
import Derived.Test.YtdbdnfjgmdkneaaMC3
import Derived.Test.YtdbdnfjgmdkneaaMC5
import Derived.Test.YtdbdnfjgmdkneaaMC10
namespace Go.Proofs.Ytdbdnfjgmdkneaa
set_option maxRecDepth 20000
open Go.RowKit Go.Deep
set_option linter.unusedVariables false
theorem right14_yes (r : Rc) (a : Option Addr) (c : Nat) (w : World) (h : KM.Right r) :
    Calls Try.prog 18 #[r.val (.slice a r.d.length c)] w fun e w' => e = .returned (.bool true) ∧ w.Extends w' :=
  (right14_any r a c w).mono fun e w' ⟨x, h1, h2, h3⟩ => ⟨by rw [h1, h2.2 h], h3⟩
theorem right14_no (r : Rc) (a : Option Addr) (c : Nat) (w : World) (h : ¬ KM.Right r) :
    Calls Try.prog 18 #[r.val (.slice a r.d.length c)] w fun e w' => e = .returned (.bool false) ∧ w.Extends w' :=
  (right14_any r a c w).mono fun e w' ⟨x, h1, h2, h3⟩ => ⟨by cases x with
    | true => exact absurd (h2.1 rfl) h
    | false => exact h1, h3⟩
theorem kind_any (r : Rc) (v : Value) (w : World) :
    Calls Try.prog 59 #[r.val v] w fun e w' => e = .returned (.int .i64 ((if r.g then 1 else 0 : Nat) : Nat)) ∧ w.Extends w' := by
  obtain ⟨p, n, b, s, m, k, e, g, u, d⟩ := r
  show Calls Try.prog 59 #[.agg #[.int .i64 p, .int .i64 n, .int .i64 b, .int .i64 s, .int .i64 m, .int .i64 k, .int .i64 e, .bool g, .int .i64 u, v]] w _
  have HX : Hid (∀ T, w.Extends (w.alloc (.cells #[.int .i64 p, .int .i64 n, .int .i64 b, .int .i64 s, .int .i64 m, .int .i64 k, .int .i64 e, .bool g, .int .i64 u, v] T))) := fun T => ext_alloc _ _
  cases g
  all_goals
    go_enter Try.func59, Try.ntmps59
    go_wp2
    go_ret
    exact ⟨rfl, HX.out _⟩
theorem NumAt.new (w : World) (ns : List Nat) (g : Nat) (cs : Array Value) (hg : g = w.heap.size) (hc : cs = (ns.map fun (n : Nat) => Value.int .i64 (n : Int)).toArray) : NumAt (w.alloc (.cells cs 3)) g ns := by
  subst hg; subst hc
  exact heap_alloc_new _ _
theorem KM.cat_lt (W : Nat) (ns : List Nat) : ∀ z ∈ KM.cat W ns, z < 256 := fun z hz => by
  unfold KM.cat at hz
  obtain ⟨l, hl, hz⟩ := List.mem_flatten.1 hz
  obtain ⟨n, _, rfl⟩ := List.mem_map.1 hl
  exact KM.nb_lt _ _ _ hz
/-- What is answered of a record: its bytes. -/
def MadeBytes (w : World) (xs : List Nat) (e : Ending) (w' : World) : Prop := ∃ v, e = .returned v ∧ U8s w' v xs ∧ w.Extends w'
/-- Bytes, in memory of the call's own. -/
def MadeBytesN (w : World) (xs : List Nat) (e : Ending) (w' : World) : Prop := ∃ v, e = .returned v ∧ U8s w' v xs ∧ w.Extends w' ∧ ∀ g, v.ownBlock = some g → w.heap.size ≤ g
set_option maxHeartbeats 1000000 in
theorem bytes14_new (r : Rc) (a : Option Addr) (c : Nat) (w : World) (h : KM.Right r) (hu : U8s w (.slice a r.d.length c) r.d) :
    Calls Try.prog 15 #[r.val (.slice a r.d.length c)] w (MadeBytesN w (KM.bytes r)) := by
  have HRI : Hid (∀ w', Calls Try.prog 18 #[r.val (.slice a r.d.length c)] w' fun e w2 => e = .returned (.bool true) ∧ w'.Extends w2) := fun w' => right14_yes r a c w' h
  have HKI : Hid (∀ w', Calls Try.prog 59 #[r.val (.slice a r.d.length c)] w' fun e w2 => e = .returned (.int .i64 ((if r.g then 1 else 0 : Nat) : Nat)) ∧ w'.Extends w2) := fun w' => kind_any r _ w'
  have HU := Lib.hid hu
  obtain ⟨hp, hn, hk, hrest⟩ := KM.right_bounds h
  obtain ⟨h1, h2, h3, h4, h5⟩ := h
  obtain ⟨p, n, b, s, m, k, e, g, u, d⟩ := r
  simp only at h1 h2 h3 h4 h5 hp hn hk hrest
  obtain ⟨p, rfl⟩ := Int.eq_ofNat_of_zero_le h1.1
  obtain ⟨n, rfl⟩ := Int.eq_ofNat_of_zero_le (show 0 ≤ n by omega)
  obtain ⟨u, rfl⟩ := Int.eq_ofNat_of_zero_le h3.1
  have hdlen := hu.len
  have HDL := Lib.hid hu.lt
  have HDS : Hid (d.length ≤ 64) := by
    cases g with
    | true => rw [(h4 rfl).2.2]; exact Nat.zero_le _
    | false =>
      obtain ⟨⟨⟨_, _, _, h6, _⟩, _⟩, _, h8⟩ := h5 rfl
      show d.length ≤ 64; omega
  clear hu hdlen
  obtain ⟨iu, hiu, hz0, hz1, hz2⟩ := info_parts byteinfo
  have HI := Lib.hid hiu
  have HZ0 := Lib.hid hz0
  have HZ1 := Lib.hid hz1
  have HZ2 := Lib.hid hz2
  clear hiu hz0 hz1 hz2
  cases g with
  | true =>
    obtain ⟨⟨⟨rfl, rfl, rfl⟩, rfl⟩, rfl, rfl⟩ := h4 rfl
    have HBY : Hid (KM.bytes ⟨p, n, 0, 0, 0, 0, 0, true, u, []⟩ = [] ++ KM.cat 1 [1] ++ KM.cat 4 [p, n, u]) := by
      show _ = _
      simp [KM.bytes, KM.head, KM.cat]
    have HPN : Hid (p < 4611686018427387904 ∧ n < 4611686018427387904 ∧ u < 4611686018427387904) := by show _ ∧ _; omega
    have HK2 : Hid (∀ w', Calls Try.prog 59 #[.agg #[.int .i64 p, .int .i64 n, .int .i64 0, .int .i64 0, .int .i64 0, .int .i64 0, .int .i64 0, .bool true, .int .i64 u, .slice a 0 c]] w' fun e w2 => e = .returned (.int .i64 ((1 : Nat) : Nat)) ∧ w'.Extends w2) := HKI.out
    have HR2 : Hid (∀ w', Calls Try.prog 18 #[.agg #[.int .i64 p, .int .i64 n, .int .i64 0, .int .i64 0, .int .i64 0, .int .i64 0, .int .i64 0, .bool true, .int .i64 u, .slice a 0 c]] w' fun e w2 => e = .returned (.bool true) ∧ w'.Extends w2) := HRI.out
    clear h1 h2 h3 h4 h5 hp hn hk hrest HKI HRI HU HDS HDL
    generalize KM.bytes _ = bs at *
    show Calls Try.prog 15 #[.agg #[.int .i64 p, .int .i64 n, .int .i64 0, .int .i64 0, .int .i64 0, .int .i64 0, .int .i64 0, .bool true, .int .i64 u, .slice a 0 c]] w _
    go_enter Try.func15, Try.ntmps15
    go_wp2_with fail
    generalize hw1 : World.alloc w _ = w1
    obtain ⟨hr1, hx1, hb1⟩ := RCell.new w w1 ⟨p, n, 0, 0, 0, 0, 0, true, u, []⟩ (.slice a 0 c) hw1
    generalize w.heap.size = x at *
    have HX1 := Lib.hid hx1
    clear hw1 hx1
    refine (HR2.out w1).mono ?_
    rintro e' w2 ⟨rfl, hx⟩
    have HX2 := Lib.hid (Gr.ext_trans HX1.out hx)
    have hr2 := rangeAt_ext hr1 hx
    obtain ⟨t0, t1, t2, t3, t4, t5, t6, t7, t8, t9⟩ := RCell.ten hr2
    simp only [Nat.zero_add] at t0 t1 t2 t3 t4 t5 t6 t7 t8 t9
    have hb2 : x < w2.heap.size := Nat.lt_of_lt_of_le hb1 hx.size
    clear hr1 hx HX1 HR2 hb1
    go_wp2_with fail
    refine (HK2.out w2).mono ?_
    rintro e' w3 ⟨rfl, hx⟩
    have HX3 := Lib.hid (Gr.ext_trans HX2.out hx)
    have hr3 := Lib.hid (rangeAt_ext hr2 hx)
    have hb3 : x < w3.heap.size := Nat.lt_of_lt_of_le hb2 hx.size
    clear hr2 hx HX2 HK2 hb2
    clear t0 t1 t2 t3 t4 t5 t6 t7 t8 t9
    go_wp2_with fail
    obtain ⟨B, hB⟩ : ∃ B, B = w3.heap.size := ⟨_, rfl⟩
    have HWB : Hid (w.heap.size ≤ B) := by show _ ≤ _; rw [hB]; exact HX3.out.size
    have HBS3 : Hid (B ≤ w3.heap.size) := Nat.le_of_eq hB
    have HE : Hid (∀ w', Below B w3 w' → w3.Extends w') := fun w' h => ext_below h hB
    have HB3 : Hid (Below B w3 w3) := Below.refl _ _
    have HO3 : Hid (w3.ownsRow B 5 1 (.slice none 0 0) ([] : List Nat).length (u8vs [])) := World.ownsRow_nil w3 B 5 1
    have hbB : x < B := by omega
    clear hB
    generalize hw4 : World.alloc w3 _ = w4
    have hn4 : NumAt w4 w3.heap.size [1] := by subst hw4; exact NumAt.new _ _ _ _ rfl rfl
    have hx4 : w3.Extends w4 := by subst hw4; exact ext_alloc _ _
    have HB4 : Hid (Below B w3 w4) := by subst hw4; exact HB3.out.alloc HBS3.out _
    have HBS4 : Hid (B ≤ w4.heap.size) := Nat.le_trans HBS3.out hx4.size
    have HO4 := Lib.hid (owns_ext HO3.out hx4)
    clear hw4 hx4 HB3 HO3
    generalize w3.heap.size = y4 at *
    refine (wapp_new B _ [] 1 [1] y4 1 w4 (by omega) (by simp only [List.mem_cons, List.not_mem_nil, or_false, forall_eq]; have := HPN.out; omega) (by simp) (by simp) HO4.out HBS4.out hn4).mono ?_
    rintro e' w5 ⟨a5, c5, z5, rfl, hz5, ho5, hb5⟩
    have HZ5 : Hid (z5 = [] ++ KM.cat 1 [1]) := hz5
    have HL5 : Hid (z5.length ≤ 50) := by show _ ≤ _; rw [hz5, List.length_append, KM.cat_length]; decide
    have HQ5 : Hid (z5.length = 1) := by show _ = _; rw [hz5, List.length_append, KM.cat_length]; rfl
    have HB5 : Hid (Below B w3 w5) := HB4.out.trans hb5
    have HBS5 : Hid (B ≤ w5.heap.size) := Nat.le_trans HBS4.out hb5.size
    have HO5 := Lib.hid ho5
    clear ho5 hb5 hn4 HB4 HO4 HBS3 HBS4 hz5
    have hr5 := rangeAt_ext hr3.out (HE.out w5 HB5.out)
    obtain ⟨t0, t1, t2, t3, t4, t5, t6, t7, t8, t9⟩ := RCell.ten hr5
    simp only [Nat.zero_add] at t0 t1 t2 t3 t4 t5 t6 t7 t8 t9
    clear hr5
    have hbq : x < w5.heap.size := Nat.lt_of_lt_of_le hbB HBS5.out
    go_wp2_with fail
    clear t0 t1 t2 t3 t4 t5 t6 t7 t8 t9 hbq
    generalize hw6 : World.alloc w5 _ = w6
    have hn6 : NumAt w6 w5.heap.size [p, n, u] := by subst hw6; exact NumAt.new _ _ _ _ rfl rfl
    have hx6 : w5.Extends w6 := by subst hw6; exact ext_alloc _ _
    have HB6 : Hid (Below B w3 w6) := by subst hw6; exact HB5.out.alloc HBS5.out _
    have HBS6 : Hid (B ≤ w6.heap.size) := Nat.le_trans HBS5.out hx6.size
    have HO6 := Lib.hid (owns_ext HO5.out hx6)
    clear hw6 hx6 HB5 HO5
    generalize w5.heap.size = y6 at *
    refine (wapp_new B _ z5 4 [p, n, u] y6 3 w6 (by omega) (by simp only [List.mem_cons, List.not_mem_nil, or_false, forall_eq_or_imp, forall_eq]; have := HPN.out; omega) (by have := HL5.out; omega) (by simp) HO6.out HBS6.out hn6).mono ?_
    rintro e' w7 ⟨a7, c7, z7, rfl, hz7, ho7, hb7⟩
    have HZ7 : Hid (z7 = z5 ++ KM.cat 4 [p, n, u]) := hz7
    have HL7 : Hid (z7.length ≤ 50) := by show _ ≤ _; rw [hz7, List.length_append, KM.cat_length]; have := HQ5.out; simp only [List.length_cons, List.length_nil]; omega
    have HQ7 : Hid (z7.length = 13) := by show _ = _; rw [hz7, List.length_append, KM.cat_length]; rw [HQ5.out]; rfl
    have HB7 : Hid (Below B w3 w7) := HB6.out.trans hb7
    have HBS7 : Hid (B ≤ w7.heap.size) := Nat.le_trans HBS6.out hb7.size
    have HO7 := Lib.hid ho7
    clear ho7 hb7 hn6 HB6 HO6 HBS5 HBS6 hz7
    have HP : Hid (MadeBytesN w bs (.returned (.slice a7 z7.length c7)) w7) := by
      refine ⟨_, rfl, ?_, Gr.ext_trans HX3.out (HE.out _ HB7.out), fun g hg => Nat.le_trans HWB.out (HO7.out.lt g hg).1⟩
      rw [show bs = z7 by rw [HBY.out, HZ7.out, HZ5.out]]
      exact owns_u8s HO7.out (fun y hy => by rw [HZ7.out, HZ5.out] at hy; simp only [List.mem_append, List.not_mem_nil, false_or] at hy; rcases hy with h | h <;> exact KM.cat_lt _ _ y h)
    have hr7 := rangeAt_ext hr3.out (HE.out w7 HB7.out)
    obtain ⟨t0, t1, t2, t3, t4, t5, t6, t7, t8, t9⟩ := RCell.ten hr7
    simp only [Nat.zero_add] at t0 t1 t2 t3 t4 t5 t6 t7 t8 t9
    clear hr7
    have hbq : x < w7.heap.size := Nat.lt_of_lt_of_le hbB HBS7.out
    generalize z7.length = ll at *
    go_wp2
    go_ret
    exact HP.out
  | false =>
    obtain ⟨⟨hsh, h6⟩, h7, h8⟩ := h5 rfl
    obtain ⟨hb1, hb2, hb3, hb4, hb5⟩ := hrest rfl
    obtain ⟨g1, g2, g3, g4, g5, g6⟩ := hsh
    obtain ⟨b, rfl⟩ := Int.eq_ofNat_of_zero_le (show 0 ≤ b by omega)
    obtain ⟨s, rfl⟩ := Int.eq_ofNat_of_zero_le (show 0 ≤ s by omega)
    obtain ⟨m, rfl⟩ := Int.eq_ofNat_of_zero_le (show 0 ≤ m by omega)
    obtain ⟨k, rfl⟩ := Int.eq_ofNat_of_zero_le h6.1
    obtain ⟨e, rfl⟩ := Int.eq_ofNat_of_zero_le h7.1
    have HBY : Hid (KM.bytes ⟨p, n, b, s, m, k, e, false, u, d⟩ = [] ++ KM.cat 1 [0] ++ KM.cat 4 [p, n, u] ++ KM.cat 2 [b, s, m, k] ++ KM.cat 3 [e] ++ d) := by
      show _ = _
      simp [KM.bytes, KM.head, KM.body, KM.cat]
    have HPN : Hid (p < 4611686018427387904 ∧ n < 4611686018427387904 ∧ u < 4611686018427387904 ∧ b < 4611686018427387904 ∧ s < 4611686018427387904 ∧ m < 4611686018427387904 ∧ k < 4611686018427387904 ∧ e < 4611686018427387904) := by
      simp only [Int.toNat_natCast] at hp hn hk hb1 hb2 hb3 hb4 hb5
      show _ ∧ _; omega
    obtain ⟨dl, hdl⟩ : ∃ dl, dl = d.length := ⟨_, rfl⟩
    rw [← hdl] at HDS
    have HDE := Lib.hid hdl
    have HK2 : Hid (∀ w', Calls Try.prog 59 #[.agg #[.int .i64 p, .int .i64 n, .int .i64 b, .int .i64 s, .int .i64 m, .int .i64 k, .int .i64 e, .bool false, .int .i64 u, .slice a dl c]] w' fun e w2 => e = .returned (.int .i64 ((0 : Nat) : Nat)) ∧ w'.Extends w2) := by rw [hdl]; exact HKI.out
    have HR2 : Hid (∀ w', Calls Try.prog 18 #[.agg #[.int .i64 p, .int .i64 n, .int .i64 b, .int .i64 s, .int .i64 m, .int .i64 k, .int .i64 e, .bool false, .int .i64 u, .slice a dl c]] w' fun e w2 => e = .returned (.bool true) ∧ w'.Extends w2) := by rw [hdl]; exact HRI.out
    have HU2 : Hid (U8s w (.slice a dl c) d) := by rw [hdl]; exact HU.out
    clear h1 h2 h3 h4 h5 hp hn hk hrest HKI HRI HU h6 h7 h8 hb1 hb2 hb3 hb4 hb5 g1 g2 g3 g4 g5 g6
    generalize KM.bytes _ = bs at *
    have HSL : (Value.slice a d.length c) = .slice a dl c := by rw [hdl]
    show Calls Try.prog 15 #[.agg #[.int .i64 p, .int .i64 n, .int .i64 b, .int .i64 s, .int .i64 m, .int .i64 k, .int .i64 e, .bool false, .int .i64 u, .slice a d.length c]] w _
    rw [HSL]
    clear HSL hdl
    go_enter Try.func15, Try.ntmps15
    go_wp2_with fail
    generalize hw1 : World.alloc w _ = w1
    obtain ⟨hr1, hx1, hb1⟩ := RCell.new w w1 ⟨p, n, b, s, m, k, e, false, u, d⟩ (.slice a dl c) hw1
    generalize w.heap.size = x at *
    have HX1 := Lib.hid hx1
    clear hw1 hx1
    refine (HR2.out w1).mono ?_
    rintro e' w2 ⟨rfl, hx⟩
    have HX2 := Lib.hid (Gr.ext_trans HX1.out hx)
    have hr2 := rangeAt_ext hr1 hx
    obtain ⟨t0, t1, t2, t3, t4, t5, t6, t7, t8, t9⟩ := RCell.ten hr2
    simp only [Nat.zero_add] at t0 t1 t2 t3 t4 t5 t6 t7 t8 t9
    have hb2 : x < w2.heap.size := Nat.lt_of_lt_of_le hb1 hx.size
    clear hr1 hx HX1 HR2 hb1
    go_wp2_with fail
    refine (HK2.out w2).mono ?_
    rintro e' w3 ⟨rfl, hx⟩
    have HX3 := Lib.hid (Gr.ext_trans HX2.out hx)
    have hr3 := Lib.hid (rangeAt_ext hr2 hx)
    have hb3 : x < w3.heap.size := Nat.lt_of_lt_of_le hb2 hx.size
    clear hr2 hx HX2 HK2 hb2
    clear t0 t1 t2 t3 t4 t5 t6 t7 t8 t9
    go_wp2_with fail
    obtain ⟨B, hB⟩ : ∃ B, B = w3.heap.size := ⟨_, rfl⟩
    have HWB : Hid (w.heap.size ≤ B) := by show _ ≤ _; rw [hB]; exact HX3.out.size
    have HBS3 : Hid (B ≤ w3.heap.size) := Nat.le_of_eq hB
    have HE : Hid (∀ w', Below B w3 w' → w3.Extends w') := fun w' h => ext_below h hB
    have HB3 : Hid (Below B w3 w3) := Below.refl _ _
    have HO3 : Hid (w3.ownsRow B 5 1 (.slice none 0 0) ([] : List Nat).length (u8vs [])) := World.ownsRow_nil w3 B 5 1
    have hbB : x < B := by omega
    clear hB
    generalize hw4 : World.alloc w3 _ = w4
    have hn4 : NumAt w4 w3.heap.size [0] := by subst hw4; exact NumAt.new _ _ _ _ rfl rfl
    have hx4 : w3.Extends w4 := by subst hw4; exact ext_alloc _ _
    have HB4 : Hid (Below B w3 w4) := by subst hw4; exact HB3.out.alloc HBS3.out _
    have HBS4 : Hid (B ≤ w4.heap.size) := Nat.le_trans HBS3.out hx4.size
    have HO4 := Lib.hid (owns_ext HO3.out hx4)
    clear hw4 hx4 HB3 HO3
    generalize w3.heap.size = y4 at *
    refine (wapp_new B _ [] 1 [0] y4 1 w4 (by omega) (by simp only [List.mem_cons, List.not_mem_nil, or_false, forall_eq]; have := HPN.out; omega) (by simp) (by simp) HO4.out HBS4.out hn4).mono ?_
    rintro e' w5 ⟨a5, c5, z5, rfl, hz5, ho5, hb5⟩
    have HZ5 : Hid (z5 = [] ++ KM.cat 1 [0]) := hz5
    have HL5 : Hid (z5.length ≤ 50) := by show _ ≤ _; rw [hz5, List.length_append, KM.cat_length]; decide
    have HQ5 : Hid (z5.length = 1) := by show _ = _; rw [hz5, List.length_append, KM.cat_length]; rfl
    have HB5 : Hid (Below B w3 w5) := HB4.out.trans hb5
    have HBS5 : Hid (B ≤ w5.heap.size) := Nat.le_trans HBS4.out hb5.size
    have HO5 := Lib.hid ho5
    clear ho5 hb5 hn4 HB4 HO4 HBS3 HBS4 hz5
    have hr5 := rangeAt_ext hr3.out (HE.out w5 HB5.out)
    obtain ⟨t0, t1, t2, t3, t4, t5, t6, t7, t8, t9⟩ := RCell.ten hr5
    simp only [Nat.zero_add] at t0 t1 t2 t3 t4 t5 t6 t7 t8 t9
    clear hr5
    have hbq : x < w5.heap.size := Nat.lt_of_lt_of_le hbB HBS5.out
    go_wp2_with fail
    clear t0 t1 t2 t3 t4 t5 t6 t7 t8 t9 hbq
    generalize hw6 : World.alloc w5 _ = w6
    have hn6 : NumAt w6 w5.heap.size [p, n, u] := by subst hw6; exact NumAt.new _ _ _ _ rfl rfl
    have hx6 : w5.Extends w6 := by subst hw6; exact ext_alloc _ _
    have HB6 : Hid (Below B w3 w6) := by subst hw6; exact HB5.out.alloc HBS5.out _
    have HBS6 : Hid (B ≤ w6.heap.size) := Nat.le_trans HBS5.out hx6.size
    have HO6 := Lib.hid (owns_ext HO5.out hx6)
    clear hw6 hx6 HB5 HO5
    generalize w5.heap.size = y6 at *
    refine (wapp_new B _ z5 4 [p, n, u] y6 3 w6 (by omega) (by simp only [List.mem_cons, List.not_mem_nil, or_false, forall_eq_or_imp, forall_eq]; have := HPN.out; omega) (by have := HL5.out; omega) (by simp) HO6.out HBS6.out hn6).mono ?_
    rintro e' w7 ⟨a7, c7, z7, rfl, hz7, ho7, hb7⟩
    have HZ7 : Hid (z7 = z5 ++ KM.cat 4 [p, n, u]) := hz7
    have HL7 : Hid (z7.length ≤ 50) := by show _ ≤ _; rw [hz7, List.length_append, KM.cat_length]; have := HQ5.out; simp only [List.length_cons, List.length_nil]; omega
    have HQ7 : Hid (z7.length = 13) := by show _ = _; rw [hz7, List.length_append, KM.cat_length]; rw [HQ5.out]; rfl
    have HB7 : Hid (Below B w3 w7) := HB6.out.trans hb7
    have HBS7 : Hid (B ≤ w7.heap.size) := Nat.le_trans HBS6.out hb7.size
    have HO7 := Lib.hid ho7
    clear ho7 hb7 hn6 HB6 HO6 HBS5 HBS6 hz7
    have hr7 := rangeAt_ext hr3.out (HE.out w7 HB7.out)
    obtain ⟨t0, t1, t2, t3, t4, t5, t6, t7, t8, t9⟩ := RCell.ten hr7
    simp only [Nat.zero_add] at t0 t1 t2 t3 t4 t5 t6 t7 t8 t9
    clear hr7
    have hbq : x < w7.heap.size := Nat.lt_of_lt_of_le hbB HBS7.out
    go_wp2_with fail
    clear t0 t1 t2 t3 t4 t5 t6 t7 t8 t9 hbq
    generalize hw8 : World.alloc w7 _ = w8
    have hn8 : NumAt w8 w7.heap.size [b, s, m, k] := by subst hw8; exact NumAt.new _ _ _ _ rfl rfl
    have hx8 : w7.Extends w8 := by subst hw8; exact ext_alloc _ _
    have HB8 : Hid (Below B w3 w8) := by subst hw8; exact HB7.out.alloc HBS7.out _
    have HBS8 : Hid (B ≤ w8.heap.size) := Nat.le_trans HBS7.out hx8.size
    have HO8 := Lib.hid (owns_ext HO7.out hx8)
    clear hw8 hx8 HB7 HO7
    generalize w7.heap.size = y8 at *
    refine (wapp_new B _ z7 2 [b, s, m, k] y8 4 w8 (by omega) (by simp only [List.mem_cons, List.not_mem_nil, or_false, forall_eq_or_imp, forall_eq]; have := HPN.out; omega) (by have := HL7.out; omega) (by simp) HO8.out HBS8.out hn8).mono ?_
    rintro e' w9 ⟨a9, c9, z9, rfl, hz9, ho9, hb9⟩
    have HZ9 : Hid (z9 = z7 ++ KM.cat 2 [b, s, m, k]) := hz9
    have HL9 : Hid (z9.length ≤ 50) := by show _ ≤ _; rw [hz9, List.length_append, KM.cat_length]; have := HQ7.out; simp only [List.length_cons, List.length_nil]; omega
    have HQ9 : Hid (z9.length = 21) := by show _ = _; rw [hz9, List.length_append, KM.cat_length]; rw [HQ7.out]; rfl
    have HB9 : Hid (Below B w3 w9) := HB8.out.trans hb9
    have HBS9 : Hid (B ≤ w9.heap.size) := Nat.le_trans HBS8.out hb9.size
    have HO9 := Lib.hid ho9
    clear ho9 hb9 hn8 HB8 HO8 HBS7 HBS8 hz9
    have hr9 := rangeAt_ext hr3.out (HE.out w9 HB9.out)
    obtain ⟨t0, t1, t2, t3, t4, t5, t6, t7, t8, t9⟩ := RCell.ten hr9
    simp only [Nat.zero_add] at t0 t1 t2 t3 t4 t5 t6 t7 t8 t9
    clear hr9
    have hbq : x < w9.heap.size := Nat.lt_of_lt_of_le hbB HBS9.out
    go_wp2_with fail
    clear t0 t1 t2 t3 t4 t5 t6 t7 t8 t9 hbq
    generalize hw10 : World.alloc w9 _ = w10
    have hn10 : NumAt w10 w9.heap.size [e] := by subst hw10; exact NumAt.new _ _ _ _ rfl rfl
    have hx10 : w9.Extends w10 := by subst hw10; exact ext_alloc _ _
    have HB10 : Hid (Below B w3 w10) := by subst hw10; exact HB9.out.alloc HBS9.out _
    have HBS10 : Hid (B ≤ w10.heap.size) := Nat.le_trans HBS9.out hx10.size
    have HO10 := Lib.hid (owns_ext HO9.out hx10)
    clear hw10 hx10 HB9 HO9
    generalize w9.heap.size = y10 at *
    refine (wapp_new B _ z9 3 [e] y10 1 w10 (by omega) (by simp only [List.mem_cons, List.not_mem_nil, or_false, forall_eq]; have := HPN.out; omega) (by have := HL9.out; omega) (by simp) HO10.out HBS10.out hn10).mono ?_
    rintro e' w11 ⟨a11, c11, z11, rfl, hz11, ho11, hb11⟩
    have HZ11 : Hid (z11 = z9 ++ KM.cat 3 [e]) := hz11
    have HL11 : Hid (z11.length ≤ 50) := by show _ ≤ _; rw [hz11, List.length_append, KM.cat_length]; have := HQ9.out; simp only [List.length_cons, List.length_nil]; omega
    have HQ11 : Hid (z11.length = 24) := by show _ = _; rw [hz11, List.length_append, KM.cat_length]; rw [HQ9.out]; rfl
    have HB11 : Hid (Below B w3 w11) := HB10.out.trans hb11
    have HBS11 : Hid (B ≤ w11.heap.size) := Nat.le_trans HBS10.out hb11.size
    have HO11 := Lib.hid ho11
    clear ho11 hb11 hn10 HB10 HO10 HBS9 HBS10 hz11
    have hr11 := rangeAt_ext hr3.out (HE.out w11 HB11.out)
    obtain ⟨t0, t1, t2, t3, t4, t5, t6, t7, t8, t9⟩ := RCell.ten hr11
    simp only [Nat.zero_add] at t0 t1 t2 t3 t4 t5 t6 t7 t8 t9
    clear hr11
    have hbq : x < w11.heap.size := Nat.lt_of_lt_of_le hbB HBS11.out
    have HUQ := Lib.hid (HU2.out.ext (Gr.ext_trans HX3.out (HE.out _ HB11.out)))
    have HLT : Hid (∀ y ∈ z11, y < 256) := fun y hy => by rw [HZ11.out, HZ9.out, HZ7.out, HZ5.out] at hy; simp only [List.mem_append, List.not_mem_nil, false_or] at hy; rcases hy with ((h | h) | h) | h <;> exact KM.cat_lt _ _ y h
    have hds := HDS.out
    have hlq := HL11.out
    obtain ⟨ll, hll2⟩ : ∃ ll, ll = z11.length := ⟨_, rfl⟩
    rw [← hll2] at HO11 hlq ⊢
    clear hll2
    go_wp2_with (at_builtin; refine wpList_append_own_src _ rfl _ _ 26 26 rfl B 5 iu (.int .u8 0) 1 1 Try.underlying26 HI.out HZ0.out HZ1.out HZ2.out rfl _ _ _ rfl HO11.out _ dl (u8vs d) rfl (by have h := HUQ.out.src (P := Try.prog) Try.underlying26; rwa [← HDE.out] at h) (by unfold maxLen; omega) (by omega) HBS11.out ?_)
    intro v9_ w9_ ho9 hg9 _
    have HP : Hid (MadeBytesN w bs (.returned v9_) w9_) := by
      refine ⟨_, rfl, ?_, Gr.ext_trans HX3.out (HE.out _ (HB11.out.grown hg9 HBS11.out (fun g hg => (HO11.out.lt g hg).1))), fun g hg => Nat.le_trans HWB.out (ho9.lt g hg).1⟩
      rw [← u8vs_app1] at ho9
      rw [show bs = z11 ++ d by rw [HBY.out, HZ11.out, HZ9.out, HZ7.out, HZ5.out]]
      exact owns_u8s ho9 (fun z hz => (List.mem_append.1 hz).elim (HLT.out z) (HDL.out z))
    clear ho9 hg9
    go_wp2
    go_ret
    exact HP.out
theorem bytes14_yes (r : Rc) (a : Option Addr) (c : Nat) (w : World) (h : KM.Right r) (hu : U8s w (.slice a r.d.length c) r.d) :
    Calls Try.prog 15 #[r.val (.slice a r.d.length c)] w (MadeBytes w (KM.bytes r)) := (bytes14_new r a c w h hu).mono fun e w' ⟨v, h1, h2, h3, _⟩ => ⟨v, h1, h2, h3⟩
end Go.Proofs.Ytdbdnfjgmdkneaa
namespace Go.Proofs.Ytdbdnfjgmdkneaa
set_option maxRecDepth 20000
set_option linter.unusedVariables false
instance (r : Rc) : Decidable (KM.Right r) := by unfold KM.Right CM.Right; infer_instance
namespace SM
def keepOf (st : Sto) (r : Rc) : Sto × Option Rc × Nat := if KM.Right r then (if r.g = true then buryOf st r else addOf st r) else (st, none, 1)
/-- A record, put. -/
def put1 (st : Sto) (r : Rc) : Sto := logged (keepOf st r)
def puts (st : Sto) : List Rc → Sto × Nat
  | [] => (st, 0)
  | r :: l => if (keepOf st r).2.2 = 0 then puts (put1 st r) l else (put1 st r, (keepOf st r).2.2)
theorem has_of {t : List Rc} {a b : Rc} (h : Of a b) : Has t a ↔ Has t b := by
  rw [has_iff, has_iff]
  constructor
  · rintro ⟨x, hx, e⟩; exact ⟨x, hx, e.1.trans h.1, e.2.trans h.2⟩
  · rintro ⟨x, hx, e⟩; exact ⟨x, hx, e.1.trans h.1.symm, e.2.trans h.2.symm⟩
theorem set_apart {t : List Rc} {r : Rc} (h : Apart t) (hn : Has t r) : Apart (t.set (tat r t) r) ∧ (∀ x ∈ t.set (tat r t) r, x = r ∨ x ∈ t) ∧ ∀ x : Rc, Has (t.set (tat r t) r) x ↔ Has t x := by
  have ho := tat_at r t hn
  have hi : tat r t < t.length := hn
  generalize tat r t = i at *
  have e0 : t.getD i Rc.zero = t[i] := by simp [List.getD_eq_getElem?_getD, hi]
  rw [e0] at ho
  have hmem : ∀ x ∈ t.set i r, x = r ∨ x ∈ t := fun x hx => (List.mem_or_eq_of_mem_set hx).symm
  refine ⟨?_, hmem, fun x => ?_⟩
  · unfold Apart
    rw [List.pairwise_iff_getElem]
    intro a b ha hb hab
    rw [List.length_set] at ha hb
    rw [List.getElem_set, List.getElem_set]
    have h0 := List.pairwise_iff_getElem.1 h a b ha hb hab
    split
    · rename_i e; subst e
      rw [if_neg (by omega)]
      intro hh
      exact h0 ⟨ho.1.trans hh.1, ho.2.trans hh.2⟩
    · split
      · rename_i e; subst e
        intro hh
        exact h0 ⟨hh.1.trans ho.1.symm, hh.2.trans ho.2.symm⟩
      · exact h0
  · rw [has_iff, has_iff]
    constructor
    · rintro ⟨y, hy, hyx⟩
      rcases hmem y hy with rfl | h1
      · exact ⟨t[i], List.getElem_mem hi, ho.1.trans hyx.1, ho.2.trans hyx.2⟩
      · exact ⟨y, h1, hyx⟩
    · rintro ⟨y, hy, hyx⟩
      obtain ⟨j, hj, rfl⟩ := List.mem_iff_getElem.1 hy
      by_cases e : i = j
      · subst e
        exact ⟨r, List.mem_iff_getElem.2 ⟨i, by rw [List.length_set]; exact hi, by simp⟩, ho.1.symm.trans hyx.1, ho.2.symm.trans hyx.2⟩
      · exact ⟨t[j], List.mem_iff_getElem.2 ⟨j, by rw [List.length_set]; exact hj, by rw [List.getElem_set, if_neg e]⟩, hyx⟩
/-- What a step leaves as it was, or lets grow. -/
structure Grew (a b : Sto) : Prop where
  m : b.m = a.m
  s : b.s = a.s
  lg : b.lg = a.lg
  t : b.t.length ≤ a.t.length + 1
theorem bury_inv {st : Sto} {r : Rc} (h : Inv st) (hr : KM.Right r) (hg : r.g = true) : Inv (buryOf st r).1 ∧ Grew st (buryOf st r).1 := by
  unfold buryOf
  split
  · rename_i hh
    split
    · obtain ⟨h1, h2, h3⟩ := set_apart h.apart hh
      refine ⟨⟨h.sorted, h.sym, fun x hx => ?_, h1, fun x hx hx2 => h.alive x hx ((h3 x).1 hx2), h.most, h.room, h.fine, h.sure⟩, rfl, rfl, rfl, by rw [List.length_set]; omega⟩
      rcases h2 x hx with rfl | hx
      · exact ⟨hr, hg⟩
      · exact h.tomb x hx
    · exact ⟨h, rfl, rfl, rfl, Nat.le_succ _⟩
  · rename_i hh
    refine ⟨⟨h.sorted.filter _, fun x hx => h.sym x (List.mem_filter.1 hx).1, fun x hx => ?_, ?_, fun x hx hx2 => ?_, h.most, Nat.le_trans (List.length_filter_le _ _) h.room, h.fine, h.sure⟩, rfl, rfl, rfl, by rw [List.length_append]; exact Nat.le_refl _⟩
    · rcases List.mem_append.1 hx with hx | hx
      · exact h.tomb x hx
      · rw [List.mem_singleton] at hx; subst hx; exact ⟨hr, hg⟩
    · unfold Apart
      rw [List.pairwise_append]
      refine ⟨h.apart, List.pairwise_singleton _ _, fun a ha b hb => ?_⟩
      rw [List.mem_singleton] at hb
      subst hb
      exact fun ho => hh ((has_iff _ _).2 ⟨a, ha, ho⟩)
    · obtain ⟨h1, h2⟩ := List.mem_filter.1 hx
      have h2 : ¬ Of x r := by simpa using h2
      obtain ⟨y, hy, hyx⟩ := (has_iff _ _).1 hx2
      rcases List.mem_append.1 hy with hy | hy
      · exact h.alive x h1 ((has_iff _ _).2 ⟨y, hy, hyx⟩)
      · rw [List.mem_singleton] at hy; subst hy
        exact h2 ⟨hyx.1.symm, hyx.2.symm⟩
theorem ins_sorted {l : List Rc} {r : Rc} (h : Sorted l) (hT : ¬ (pos r l < l.length ∧ ¬ Lt r (l.getD (pos r l) Rc.zero))) : Sorted (ins r l) := h.ins fun hp => Decidable.byContradiction fun hn => hT ⟨hp, hn⟩
theorem erase_free {l : List Rc} {r : Rc} (h : Sorted l) {j : Nat} (hj : j < l.length) (hT : ¬ (pos r l < l.length ∧ ¬ Lt r (l.getD (pos r l) Rc.zero))) : ¬ (pos r (l.eraseIdx j) < (l.eraseIdx j).length ∧ ¬ Lt r ((l.eraseIdx j).getD (pos r (l.eraseIdx j)) Rc.zero)) := by
  have hlen : (l.eraseIdx j).length = l.length - 1 := by rw [List.length_eraseIdx, if_pos hj]
  have hget : ∀ m, (l.eraseIdx j).getD m Rc.zero = l.getD (if m < j then m else m + 1) Rc.zero := fun m => by
    rw [List.getD_eq_getElem?_getD, List.getD_eq_getElem?_getD, List.getElem?_eraseIdx]
    split <;> rfl
  rintro ⟨h1, h2⟩
  rw [pos_erase h r hj] at h1 h2
  rw [hget] at h2
  have hle := pos_le r l
  split at h1
  · rename_i hjp
    rw [if_pos hjp, if_neg (by omega), show pos r l - 1 + 1 = pos r l by omega] at h2
    exact hT ⟨by omega, h2⟩
  · rename_i hjp
    rw [if_neg hjp] at h2
    split at h2
    · exact hT ⟨by omega, h2⟩
    · have hp : pos r l < l.length := by omega
      have h3 : Lt r (l.getD (pos r l) Rc.zero) := Decidable.byContradiction fun hn => hT ⟨hp, hn⟩
      have h4 := h.lt (i := pos r l) (j := pos r l + 1) (by omega) (by omega)
      exact h2 (h3.trans h4)
theorem add_inv {st : Sto} {r : Rc} (h : Inv st) (hr : KM.Right r) (hg : r.g = false) (h8 : ∀ y ∈ r.d, y < 256) : Inv (addOf st r).1 ∧ Grew st (addOf st r).1 := by
  unfold addOf
  have hadd : ∀ l : List Rc, Sorted (ins r l) → (∀ x ∈ l, x ∈ st.l) → l.length < st.m → ¬ Has st.t r → Inv { st with l := ins r l } := fun l hs hl hm hh =>
    ⟨hs, fun x hx => by
      rcases mem_ins.1 hx with rfl | hx
      · exact ⟨hr, hg, h8⟩
      · exact h.sym x (hl x hx), h.tomb, h.apart, fun x hx => by
      rcases mem_ins.1 hx with rfl | hx
      · exact hh
      · exact h.alive x (hl x hx), h.most, by show (ins r l).length ≤ st.m; rw [ins_length]; omega, h.fine, h.sure⟩
  split
  · exact ⟨h, rfl, rfl, rfl, Nat.le_succ _⟩
  · rename_i hh
    split
    · rename_i hT
      split
      · refine ⟨⟨h.sorted.till _ _ hT.1, fun x hx => ?_, h.tomb, h.apart, fun x hx => ?_, h.most, by show (st.l.set _ _).length ≤ _; rw [List.length_set]; exact h.room, h.fine, h.sure⟩, rfl, rfl, rfl, Nat.le_succ _⟩
        · rcases List.mem_or_eq_of_mem_set hx with hx | rfl
          · exact h.sym x hx
          · have hm : st.l.getD (pos r st.l) Rc.zero ∈ st.l := by
              rw [List.getD_eq_getElem?_getD, List.getElem?_eq_getElem hT.1]; exact List.getElem_mem _
            obtain ⟨h1, h2, h3⟩ := h.sym _ hm
            exact ⟨⟨h1.1, h1.2.1, hr.2.2.1, h1.2.2.2⟩, h2, h3⟩
        · rcases List.mem_or_eq_of_mem_set hx with hx | rfl
          · exact h.alive x hx
          · have hm : st.l.getD (pos r st.l) Rc.zero ∈ st.l := by
              rw [List.getD_eq_getElem?_getD, List.getElem?_eq_getElem hT.1]; exact List.getElem_mem _
            exact fun hx => h.alive _ hm ((has_of (a := till (st.l.getD (pos r st.l) Rc.zero) r.u) (b := st.l.getD (pos r st.l) Rc.zero) ⟨rfl, rfl⟩).1 hx)
      · exact ⟨h, rfl, rfl, rfl, Nat.le_succ _⟩
    · rename_i hT
      split
      · rename_i hm
        exact ⟨hadd st.l (ins_sorted h.sorted hT) (fun x hx => hx) hm hh, rfl, rfl, rfl, Nat.le_succ _⟩
      · rename_i hm
        split
        · exact ⟨h, rfl, rfl, rfl, Nat.le_succ _⟩
        · rename_i hl
          have hj := least_lt (fun hn => hl (.inl hn))
          refine ⟨hadd _ (ins_sorted (h.sorted.erase _) (erase_free h.sorted hj hT)) (fun x hx => List.mem_of_mem_eraseIdx hx) ?_ hh, rfl, rfl, rfl, Nat.le_succ _⟩
          rw [List.length_eraseIdx, if_pos hj]
          have := h.room
          omega
theorem kept_right {st : Sto} {r k : Rc} (h : Inv st) (h8 : ∀ y ∈ r.d, y < 256) (hk : (keepOf st r).2.1 = some k) : KM.Right k ∧ (∀ y ∈ k.d, y < 256) := by
  unfold keepOf at hk
  split at hk
  · rename_i hr
    split at hk
    · unfold buryOf at hk
      split at hk
      · split at hk
        · simp only [Option.some.injEq] at hk; subst hk; exact ⟨hr, h8⟩
        · cases hk
      · simp only [Option.some.injEq] at hk; subst hk; exact ⟨hr, h8⟩
    · unfold addOf at hk
      split at hk
      · cases hk
      · split at hk
        · rename_i hT
          split at hk
          · simp only [Option.some.injEq] at hk
            subst hk
            have hm : st.l.getD (pos r st.l) Rc.zero ∈ st.l := by
              rw [List.getD_eq_getElem?_getD, List.getElem?_eq_getElem hT.1]; exact List.getElem_mem _
            obtain ⟨h1, h2, h3⟩ := h.sym _ hm
            exact ⟨⟨h1.1, h1.2.1, hr.2.2.1, h1.2.2.2⟩, h3⟩
          · cases hk
        · split at hk
          · simp only [Option.some.injEq] at hk; subst hk; exact ⟨hr, h8⟩
          · split at hk
            · cases hk
            · simp only [Option.some.injEq] at hk; subst hk; exact ⟨hr, h8⟩
  · cases hk
theorem bytes_len {r : Rc} (h : KM.Right r) : (KM.bytes r).length ≤ 88 := by
  unfold KM.bytes
  split
  · rw [KM.head_length]; omega
  · rename_i hg
    have hg : r.g = false := by simpa using hg
    obtain ⟨⟨⟨_, _, _, h4, _⟩, _⟩, _, h8⟩ := h.2.2.2.2 hg
    rw [List.length_append, List.length_append, KM.head_length, KM.body_length]
    omega
theorem keep_inv {st : Sto} {r : Rc} (h : Inv st) (h8 : ∀ y ∈ r.d, y < 256) : Inv (keepOf st r).1 ∧ Grew st (keepOf st r).1 := by
  unfold keepOf
  split
  · rename_i hr
    cases hg : r.g with
    | true => rw [if_pos rfl]; exact bury_inv h hr hg
    | false => rw [if_neg (by decide)]; exact add_inv h hr hg h8
  · exact ⟨h, rfl, rfl, rfl, Nat.le_succ _⟩
theorem put1_inv {st : Sto} {r : Rc} (h : Inv st) (h8 : ∀ y ∈ r.d, y < 256) : Inv (put1 st r) ∧ (put1 st r).m = st.m ∧ (put1 st r).s = st.s ∧ LM.size (put1 st r).lg ≤ LM.size st.lg + 90 ∧ (put1 st r).t.length ≤ st.t.length + 1 := by
  obtain ⟨h1, h2⟩ := keep_inv h h8
  unfold put1 logged
  split
  · exact ⟨h1, h2.m, h2.s, by rw [h2.lg]; omega, h2.t⟩
  · rename_i k hk
    obtain ⟨h3, h4⟩ := kept_right h h8 hk
    have hb := bytes_len h3
    have hsz : LM.size ((keepOf st r).1.lg ++ [KM.bytes k]) = LM.size st.lg + 2 + (KM.bytes k).length := by rw [LM.size_snoc, h2.lg]
    refine ⟨⟨h1.sorted, h1.sym, h1.tomb, h1.apart, h1.alive, h1.most, h1.room, h1.fine.snoc (by omega) (KM.bytes_lt k h4), ?_⟩, h2.m, h2.s, by show LM.size (_ ++ _) ≤ _; rw [hsz]; omega, h2.t⟩
    show (keepOf st r).1.s ≤ LM.size (_ ++ _)
    rw [hsz, h2.s]
    have := h.sure
    omega
/-- The log with a record more. -/
def addLog (st : Sto) (o : Option Rc) : Sto := match o with
  | none => st
  | some k => { st with lg := st.lg ++ [KM.bytes k] }
theorem put1_eq (st : Sto) (r : Rc) : put1 st r = addLog (keepOf st r).1 (keepOf st r).2.1 := by
  unfold put1 logged addLog
  split <;> rename_i h <;> rw [h]
theorem puts_step {st : Sto} {l : List Rc} {k : Nat} (h : k < l.length) : puts st (l.drop k) = if (keepOf st (l.getD k Rc.zero)).2.2 = 0 then puts (put1 st (l.getD k Rc.zero)) (l.drop (k + 1)) else (put1 st (l.getD k Rc.zero), (keepOf st (l.getD k Rc.zero)).2.2) := by
  rw [List.drop_eq_getElem_cons h]
  have e : l.getD k Rc.zero = l[k] := by simp [List.getD_eq_getElem?_getD, h]
  rw [e]
  rfl
end SM
end Go.Proofs.Ytdbdnfjgmdkneaa
