/- In one text: RecBytes, RecRead. -/
import Derived.Test.YtdbdnfjgmdkneaaMD3
import Derived.Test.YtdbdnfjgmdkneaaMD4
namespace Go.Proofs.Ytdbdnfjgmdkneaa
set_option maxRecDepth 20000
open Go.RowKit Go.Deep
set_option linter.unusedVariables false
theorem right14_yes (r : Rc) (a : Option Addr) (c : Nat) (w : World) (h : KM.Right r) :
    Calls Try.prog 18 #[r.val (.slice a r.d.length c)] w fun e w' => e = .returned (.bool true) ∧ w.Extends w' :=
  (right14_any r a c w).mono fun e w' ⟨x, h1, h2, h3⟩ => ⟨by rw [h1, h2.2 h], h3⟩
theorem right14_no (r : Rc) (a : Option Addr) (c : Nat) (w : World) (h : ¬ KM.Right r) :
    Calls Try.prog 18 #[r.val (.slice a r.d.length c)] w fun e w' => e = .returned (.bool false) ∧ w.Extends w' :=
  (right14_any r a c w).mono fun e w' ⟨x, h1, h2, h3⟩ => ⟨by cases x with
    | true => exact absurd (h2.1 rfl) h
    | false => exact h1, h3⟩
theorem kind_any (r : Rc) (v : Value) (w : World) :
    Calls Try.prog 59 #[r.val v] w fun e w' => e = .returned (.int .i64 ((if r.g then 1 else 0 : Nat) : Nat)) ∧ w.Extends w' := by
  obtain ⟨p, n, b, s, m, k, e, g, u, d⟩ := r
  show Calls Try.prog 59 #[.agg #[.int .i64 p, .int .i64 n, .int .i64 b, .int .i64 s, .int .i64 m, .int .i64 k, .int .i64 e, .bool g, .int .i64 u, v]] w _
  have HX : Hid (∀ T, w.Extends (w.alloc (.cells #[.int .i64 p, .int .i64 n, .int .i64 b, .int .i64 s, .int .i64 m, .int .i64 k, .int .i64 e, .bool g, .int .i64 u, v] T))) := fun T => ext_alloc _ _
  cases g
  all_goals
    go_enter Try.func59, Try.ntmps59
    go_wp2
    go_ret
    exact ⟨rfl, HX.out _⟩
theorem NumAt.new (w : World) (ns : List Nat) (g : Nat) (cs : Array Value) (hg : g = w.heap.size) (hc : cs = (ns.map fun (n : Nat) => Value.int .i64 (n : Int)).toArray) : NumAt (w.alloc (.cells cs 3)) g ns := by
  subst hg; subst hc
  exact heap_alloc_new _ _
theorem KM.cat_lt (W : Nat) (ns : List Nat) : ∀ z ∈ KM.cat W ns, z < 256 := fun z hz => by
  unfold KM.cat at hz
  obtain ⟨l, hl, hz⟩ := List.mem_flatten.1 hz
  obtain ⟨n, _, rfl⟩ := List.mem_map.1 hl
  exact KM.nb_lt _ _ _ hz
/-- What is answered of a record: its bytes. -/
def MadeBytes (w : World) (xs : List Nat) (e : Ending) (w' : World) : Prop := ∃ v, e = .returned v ∧ U8s w' v xs ∧ w.Extends w'
/-- Bytes, in memory of the call's own. -/
def MadeBytesN (w : World) (xs : List Nat) (e : Ending) (w' : World) : Prop := ∃ v, e = .returned v ∧ U8s w' v xs ∧ w.Extends w' ∧ ∀ g, v.ownBlock = some g → w.heap.size ≤ g
set_option maxHeartbeats 1000000 in
theorem bytes14_new (r : Rc) (a : Option Addr) (c : Nat) (w : World) (h : KM.Right r) (hu : U8s w (.slice a r.d.length c) r.d) :
    Calls Try.prog 15 #[r.val (.slice a r.d.length c)] w (MadeBytesN w (KM.bytes r)) := by
  have HRI : Hid (∀ w', Calls Try.prog 18 #[r.val (.slice a r.d.length c)] w' fun e w2 => e = .returned (.bool true) ∧ w'.Extends w2) := fun w' => right14_yes r a c w' h
  have HKI : Hid (∀ w', Calls Try.prog 59 #[r.val (.slice a r.d.length c)] w' fun e w2 => e = .returned (.int .i64 ((if r.g then 1 else 0 : Nat) : Nat)) ∧ w'.Extends w2) := fun w' => kind_any r _ w'
  have HU := Lib.hid hu
  obtain ⟨hp, hn, hk, hrest⟩ := KM.right_bounds h
  obtain ⟨h1, h2, h3, h4, h5⟩ := h
  obtain ⟨p, n, b, s, m, k, e, g, u, d⟩ := r
  simp only at h1 h2 h3 h4 h5 hp hn hk hrest
  obtain ⟨p, rfl⟩ := Int.eq_ofNat_of_zero_le h1.1
  obtain ⟨n, rfl⟩ := Int.eq_ofNat_of_zero_le (show 0 ≤ n by omega)
  obtain ⟨u, rfl⟩ := Int.eq_ofNat_of_zero_le h3.1
  have hdlen := hu.len
  have HDL := Lib.hid hu.lt
  have HDS : Hid (d.length ≤ 64) := by
    cases g with
    | true => rw [(h4 rfl).2.2]; exact Nat.zero_le _
    | false =>
      obtain ⟨⟨⟨_, _, _, h6, _⟩, _⟩, _, h8⟩ := h5 rfl
      show d.length ≤ 64; omega
  clear hu hdlen
  obtain ⟨iu, hiu, hz0, hz1, hz2⟩ := info_parts byteinfo
  have HI := Lib.hid hiu
  have HZ0 := Lib.hid hz0
  have HZ1 := Lib.hid hz1
  have HZ2 := Lib.hid hz2
  clear hiu hz0 hz1 hz2
  cases g with
  | true =>
    obtain ⟨⟨⟨rfl, rfl, rfl⟩, rfl⟩, rfl, rfl⟩ := h4 rfl
    have HBY : Hid (KM.bytes ⟨p, n, 0, 0, 0, 0, 0, true, u, []⟩ = [] ++ KM.cat 1 [1] ++ KM.cat 4 [p, n, u]) := by
      show _ = _
      simp [KM.bytes, KM.head, KM.cat]
    have HPN : Hid (p < 4611686018427387904 ∧ n < 4611686018427387904 ∧ u < 4611686018427387904) := by show _ ∧ _; omega
    have HK2 : Hid (∀ w', Calls Try.prog 59 #[.agg #[.int .i64 p, .int .i64 n, .int .i64 0, .int .i64 0, .int .i64 0, .int .i64 0, .int .i64 0, .bool true, .int .i64 u, .slice a 0 c]] w' fun e w2 => e = .returned (.int .i64 ((1 : Nat) : Nat)) ∧ w'.Extends w2) := HKI.out
    have HR2 : Hid (∀ w', Calls Try.prog 18 #[.agg #[.int .i64 p, .int .i64 n, .int .i64 0, .int .i64 0, .int .i64 0, .int .i64 0, .int .i64 0, .bool true, .int .i64 u, .slice a 0 c]] w' fun e w2 => e = .returned (.bool true) ∧ w'.Extends w2) := HRI.out
    clear h1 h2 h3 h4 h5 hp hn hk hrest HKI HRI HU HDS HDL
    generalize KM.bytes _ = bs at *
    show Calls Try.prog 15 #[.agg #[.int .i64 p, .int .i64 n, .int .i64 0, .int .i64 0, .int .i64 0, .int .i64 0, .int .i64 0, .bool true, .int .i64 u, .slice a 0 c]] w _
    go_enter Try.func15, Try.ntmps15
    go_wp2_with fail
    generalize hw1 : World.alloc w _ = w1
    obtain ⟨hr1, hx1, hb1⟩ := RCell.new w w1 ⟨p, n, 0, 0, 0, 0, 0, true, u, []⟩ (.slice a 0 c) hw1
    generalize w.heap.size = x at *
    have HX1 := Lib.hid hx1
    clear hw1 hx1
    refine (HR2.out w1).mono ?_
    rintro e' w2 ⟨rfl, hx⟩
    have HX2 := Lib.hid (Gr.ext_trans HX1.out hx)
    have hr2 := rangeAt_ext hr1 hx
    obtain ⟨t0, t1, t2, t3, t4, t5, t6, t7, t8, t9⟩ := RCell.ten hr2
    simp only [Nat.zero_add] at t0 t1 t2 t3 t4 t5 t6 t7 t8 t9
    have hb2 : x < w2.heap.size := Nat.lt_of_lt_of_le hb1 hx.size
    clear hr1 hx HX1 HR2 hb1
    go_wp2_with fail
    refine (HK2.out w2).mono ?_
    rintro e' w3 ⟨rfl, hx⟩
    have HX3 := Lib.hid (Gr.ext_trans HX2.out hx)
    have hr3 := Lib.hid (rangeAt_ext hr2 hx)
    have hb3 : x < w3.heap.size := Nat.lt_of_lt_of_le hb2 hx.size
    clear hr2 hx HX2 HK2 hb2
    clear t0 t1 t2 t3 t4 t5 t6 t7 t8 t9
    go_wp2_with fail
    obtain ⟨B, hB⟩ : ∃ B, B = w3.heap.size := ⟨_, rfl⟩
    have HWB : Hid (w.heap.size ≤ B) := by show _ ≤ _; rw [hB]; exact HX3.out.size
    have HBS3 : Hid (B ≤ w3.heap.size) := Nat.le_of_eq hB
    have HE : Hid (∀ w', Below B w3 w' → w3.Extends w') := fun w' h => ext_below h hB
    have HB3 : Hid (Below B w3 w3) := Below.refl _ _
    have HO3 : Hid (w3.ownsRow B 5 1 (.slice none 0 0) ([] : List Nat).length (u8vs [])) := World.ownsRow_nil w3 B 5 1
    have hbB : x < B := by omega
    clear hB
    generalize hw4 : World.alloc w3 _ = w4
    have hn4 : NumAt w4 w3.heap.size [1] := by subst hw4; exact NumAt.new _ _ _ _ rfl rfl
    have hx4 : w3.Extends w4 := by subst hw4; exact ext_alloc _ _
    have HB4 : Hid (Below B w3 w4) := by subst hw4; exact HB3.out.alloc HBS3.out _
    have HBS4 : Hid (B ≤ w4.heap.size) := Nat.le_trans HBS3.out hx4.size
    have HO4 := Lib.hid (owns_ext HO3.out hx4)
    clear hw4 hx4 HB3 HO3
    generalize w3.heap.size = y4 at *
    refine (wapp_new B _ [] 1 [1] y4 1 w4 (by omega) (by simp only [List.mem_cons, List.not_mem_nil, or_false, forall_eq]; have := HPN.out; omega) (by simp) (by simp) HO4.out HBS4.out hn4).mono ?_
    rintro e' w5 ⟨a5, c5, z5, rfl, hz5, ho5, hb5⟩
    have HZ5 : Hid (z5 = [] ++ KM.cat 1 [1]) := hz5
    have HL5 : Hid (z5.length ≤ 50) := by show _ ≤ _; rw [hz5, List.length_append, KM.cat_length]; decide
    have HQ5 : Hid (z5.length = 1) := by show _ = _; rw [hz5, List.length_append, KM.cat_length]; rfl
    have HB5 : Hid (Below B w3 w5) := HB4.out.trans hb5
    have HBS5 : Hid (B ≤ w5.heap.size) := Nat.le_trans HBS4.out hb5.size
    have HO5 := Lib.hid ho5
    clear ho5 hb5 hn4 HB4 HO4 HBS3 HBS4 hz5
    have hr5 := rangeAt_ext hr3.out (HE.out w5 HB5.out)
    obtain ⟨t0, t1, t2, t3, t4, t5, t6, t7, t8, t9⟩ := RCell.ten hr5
    simp only [Nat.zero_add] at t0 t1 t2 t3 t4 t5 t6 t7 t8 t9
    clear hr5
    have hbq : x < w5.heap.size := Nat.lt_of_lt_of_le hbB HBS5.out
    go_wp2_with fail
    clear t0 t1 t2 t3 t4 t5 t6 t7 t8 t9 hbq
    generalize hw6 : World.alloc w5 _ = w6
    have hn6 : NumAt w6 w5.heap.size [p, n, u] := by subst hw6; exact NumAt.new _ _ _ _ rfl rfl
    have hx6 : w5.Extends w6 := by subst hw6; exact ext_alloc _ _
    have HB6 : Hid (Below B w3 w6) := by subst hw6; exact HB5.out.alloc HBS5.out _
    have HBS6 : Hid (B ≤ w6.heap.size) := Nat.le_trans HBS5.out hx6.size
    have HO6 := Lib.hid (owns_ext HO5.out hx6)
    clear hw6 hx6 HB5 HO5
    generalize w5.heap.size = y6 at *
    refine (wapp_new B _ z5 4 [p, n, u] y6 3 w6 (by omega) (by simp only [List.mem_cons, List.not_mem_nil, or_false, forall_eq_or_imp, forall_eq]; have := HPN.out; omega) (by have := HL5.out; omega) (by simp) HO6.out HBS6.out hn6).mono ?_
    rintro e' w7 ⟨a7, c7, z7, rfl, hz7, ho7, hb7⟩
    have HZ7 : Hid (z7 = z5 ++ KM.cat 4 [p, n, u]) := hz7
    have HL7 : Hid (z7.length ≤ 50) := by show _ ≤ _; rw [hz7, List.length_append, KM.cat_length]; have := HQ5.out; simp only [List.length_cons, List.length_nil]; omega
    have HQ7 : Hid (z7.length = 13) := by show _ = _; rw [hz7, List.length_append, KM.cat_length]; rw [HQ5.out]; rfl
    have HB7 : Hid (Below B w3 w7) := HB6.out.trans hb7
    have HBS7 : Hid (B ≤ w7.heap.size) := Nat.le_trans HBS6.out hb7.size
    have HO7 := Lib.hid ho7
    clear ho7 hb7 hn6 HB6 HO6 HBS5 HBS6 hz7
    have HP : Hid (MadeBytesN w bs (.returned (.slice a7 z7.length c7)) w7) := by
      refine ⟨_, rfl, ?_, Gr.ext_trans HX3.out (HE.out _ HB7.out), fun g hg => Nat.le_trans HWB.out (HO7.out.lt g hg).1⟩
      rw [show bs = z7 by rw [HBY.out, HZ7.out, HZ5.out]]
      exact owns_u8s HO7.out (fun y hy => by rw [HZ7.out, HZ5.out] at hy; simp only [List.mem_append, List.not_mem_nil, false_or] at hy; rcases hy with h | h <;> exact KM.cat_lt _ _ y h)
    have hr7 := rangeAt_ext hr3.out (HE.out w7 HB7.out)
    obtain ⟨t0, t1, t2, t3, t4, t5, t6, t7, t8, t9⟩ := RCell.ten hr7
    simp only [Nat.zero_add] at t0 t1 t2 t3 t4 t5 t6 t7 t8 t9
    clear hr7
    have hbq : x < w7.heap.size := Nat.lt_of_lt_of_le hbB HBS7.out
    generalize z7.length = ll at *
    go_wp2
    go_ret
    exact HP.out
  | false =>
    obtain ⟨⟨hsh, h6⟩, h7, h8⟩ := h5 rfl
    obtain ⟨hb1, hb2, hb3, hb4, hb5⟩ := hrest rfl
    obtain ⟨g1, g2, g3, g4, g5, g6⟩ := hsh
    obtain ⟨b, rfl⟩ := Int.eq_ofNat_of_zero_le (show 0 ≤ b by omega)
    obtain ⟨s, rfl⟩ := Int.eq_ofNat_of_zero_le (show 0 ≤ s by omega)
    obtain ⟨m, rfl⟩ := Int.eq_ofNat_of_zero_le (show 0 ≤ m by omega)
    obtain ⟨k, rfl⟩ := Int.eq_ofNat_of_zero_le h6.1
    obtain ⟨e, rfl⟩ := Int.eq_ofNat_of_zero_le h7.1
    have HBY : Hid (KM.bytes ⟨p, n, b, s, m, k, e, false, u, d⟩ = [] ++ KM.cat 1 [0] ++ KM.cat 4 [p, n, u] ++ KM.cat 2 [b, s, m, k] ++ KM.cat 3 [e] ++ d) := by
      show _ = _
      simp [KM.bytes, KM.head, KM.body, KM.cat]
    have HPN : Hid (p < 4611686018427387904 ∧ n < 4611686018427387904 ∧ u < 4611686018427387904 ∧ b < 4611686018427387904 ∧ s < 4611686018427387904 ∧ m < 4611686018427387904 ∧ k < 4611686018427387904 ∧ e < 4611686018427387904) := by
      simp only [Int.toNat_natCast] at hp hn hk hb1 hb2 hb3 hb4 hb5
      show _ ∧ _; omega
    obtain ⟨dl, hdl⟩ : ∃ dl, dl = d.length := ⟨_, rfl⟩
    rw [← hdl] at HDS
    have HDE := Lib.hid hdl
    have HK2 : Hid (∀ w', Calls Try.prog 59 #[.agg #[.int .i64 p, .int .i64 n, .int .i64 b, .int .i64 s, .int .i64 m, .int .i64 k, .int .i64 e, .bool false, .int .i64 u, .slice a dl c]] w' fun e w2 => e = .returned (.int .i64 ((0 : Nat) : Nat)) ∧ w'.Extends w2) := by rw [hdl]; exact HKI.out
    have HR2 : Hid (∀ w', Calls Try.prog 18 #[.agg #[.int .i64 p, .int .i64 n, .int .i64 b, .int .i64 s, .int .i64 m, .int .i64 k, .int .i64 e, .bool false, .int .i64 u, .slice a dl c]] w' fun e w2 => e = .returned (.bool true) ∧ w'.Extends w2) := by rw [hdl]; exact HRI.out
    have HU2 : Hid (U8s w (.slice a dl c) d) := by rw [hdl]; exact HU.out
    clear h1 h2 h3 h4 h5 hp hn hk hrest HKI HRI HU h6 h7 h8 hb1 hb2 hb3 hb4 hb5 g1 g2 g3 g4 g5 g6
    generalize KM.bytes _ = bs at *
    have HSL : (Value.slice a d.length c) = .slice a dl c := by rw [hdl]
    show Calls Try.prog 15 #[.agg #[.int .i64 p, .int .i64 n, .int .i64 b, .int .i64 s, .int .i64 m, .int .i64 k, .int .i64 e, .bool false, .int .i64 u, .slice a d.length c]] w _
    rw [HSL]
    clear HSL hdl
    go_enter Try.func15, Try.ntmps15
    go_wp2_with fail
    generalize hw1 : World.alloc w _ = w1
    obtain ⟨hr1, hx1, hb1⟩ := RCell.new w w1 ⟨p, n, b, s, m, k, e, false, u, d⟩ (.slice a dl c) hw1
    generalize w.heap.size = x at *
    have HX1 := Lib.hid hx1
    clear hw1 hx1
    refine (HR2.out w1).mono ?_
    rintro e' w2 ⟨rfl, hx⟩
    have HX2 := Lib.hid (Gr.ext_trans HX1.out hx)
    have hr2 := rangeAt_ext hr1 hx
    obtain ⟨t0, t1, t2, t3, t4, t5, t6, t7, t8, t9⟩ := RCell.ten hr2
    simp only [Nat.zero_add] at t0 t1 t2 t3 t4 t5 t6 t7 t8 t9
    have hb2 : x < w2.heap.size := Nat.lt_of_lt_of_le hb1 hx.size
    clear hr1 hx HX1 HR2 hb1
    go_wp2_with fail
    refine (HK2.out w2).mono ?_
    rintro e' w3 ⟨rfl, hx⟩
    have HX3 := Lib.hid (Gr.ext_trans HX2.out hx)
    have hr3 := Lib.hid (rangeAt_ext hr2 hx)
    have hb3 : x < w3.heap.size := Nat.lt_of_lt_of_le hb2 hx.size
    clear hr2 hx HX2 HK2 hb2
    clear t0 t1 t2 t3 t4 t5 t6 t7 t8 t9
    go_wp2_with fail
    obtain ⟨B, hB⟩ : ∃ B, B = w3.heap.size := ⟨_, rfl⟩
    have HWB : Hid (w.heap.size ≤ B) := by show _ ≤ _; rw [hB]; exact HX3.out.size
    have HBS3 : Hid (B ≤ w3.heap.size) := Nat.le_of_eq hB
    have HE : Hid (∀ w', Below B w3 w' → w3.Extends w') := fun w' h => ext_below h hB
    have HB3 : Hid (Below B w3 w3) := Below.refl _ _
    have HO3 : Hid (w3.ownsRow B 5 1 (.slice none 0 0) ([] : List Nat).length (u8vs [])) := World.ownsRow_nil w3 B 5 1
    have hbB : x < B := by omega
    clear hB
    generalize hw4 : World.alloc w3 _ = w4
    have hn4 : NumAt w4 w3.heap.size [0] := by subst hw4; exact NumAt.new _ _ _ _ rfl rfl
    have hx4 : w3.Extends w4 := by subst hw4; exact ext_alloc _ _
    have HB4 : Hid (Below B w3 w4) := by subst hw4; exact HB3.out.alloc HBS3.out _
    have HBS4 : Hid (B ≤ w4.heap.size) := Nat.le_trans HBS3.out hx4.size
    have HO4 := Lib.hid (owns_ext HO3.out hx4)
    clear hw4 hx4 HB3 HO3
    generalize w3.heap.size = y4 at *
    refine (wapp_new B _ [] 1 [0] y4 1 w4 (by omega) (by simp only [List.mem_cons, List.not_mem_nil, or_false, forall_eq]; have := HPN.out; omega) (by simp) (by simp) HO4.out HBS4.out hn4).mono ?_
    rintro e' w5 ⟨a5, c5, z5, rfl, hz5, ho5, hb5⟩
    have HZ5 : Hid (z5 = [] ++ KM.cat 1 [0]) := hz5
    have HL5 : Hid (z5.length ≤ 50) := by show _ ≤ _; rw [hz5, List.length_append, KM.cat_length]; decide
    have HQ5 : Hid (z5.length = 1) := by show _ = _; rw [hz5, List.length_append, KM.cat_length]; rfl
    have HB5 : Hid (Below B w3 w5) := HB4.out.trans hb5
    have HBS5 : Hid (B ≤ w5.heap.size) := Nat.le_trans HBS4.out hb5.size
    have HO5 := Lib.hid ho5
    clear ho5 hb5 hn4 HB4 HO4 HBS3 HBS4 hz5
    have hr5 := rangeAt_ext hr3.out (HE.out w5 HB5.out)
    obtain ⟨t0, t1, t2, t3, t4, t5, t6, t7, t8, t9⟩ := RCell.ten hr5
    simp only [Nat.zero_add] at t0 t1 t2 t3 t4 t5 t6 t7 t8 t9
    clear hr5
    have hbq : x < w5.heap.size := Nat.lt_of_lt_of_le hbB HBS5.out
    go_wp2_with fail
    clear t0 t1 t2 t3 t4 t5 t6 t7 t8 t9 hbq
    generalize hw6 : World.alloc w5 _ = w6
    have hn6 : NumAt w6 w5.heap.size [p, n, u] := by subst hw6; exact NumAt.new _ _ _ _ rfl rfl
    have hx6 : w5.Extends w6 := by subst hw6; exact ext_alloc _ _
    have HB6 : Hid (Below B w3 w6) := by subst hw6; exact HB5.out.alloc HBS5.out _
    have HBS6 : Hid (B ≤ w6.heap.size) := Nat.le_trans HBS5.out hx6.size
    have HO6 := Lib.hid (owns_ext HO5.out hx6)
    clear hw6 hx6 HB5 HO5
    generalize w5.heap.size = y6 at *
    refine (wapp_new B _ z5 4 [p, n, u] y6 3 w6 (by omega) (by simp only [List.mem_cons, List.not_mem_nil, or_false, forall_eq_or_imp, forall_eq]; have := HPN.out; omega) (by have := HL5.out; omega) (by simp) HO6.out HBS6.out hn6).mono ?_
    rintro e' w7 ⟨a7, c7, z7, rfl, hz7, ho7, hb7⟩
    have HZ7 : Hid (z7 = z5 ++ KM.cat 4 [p, n, u]) := hz7
    have HL7 : Hid (z7.length ≤ 50) := by show _ ≤ _; rw [hz7, List.length_append, KM.cat_length]; have := HQ5.out; simp only [List.length_cons, List.length_nil]; omega
    have HQ7 : Hid (z7.length = 13) := by show _ = _; rw [hz7, List.length_append, KM.cat_length]; rw [HQ5.out]; rfl
    have HB7 : Hid (Below B w3 w7) := HB6.out.trans hb7
    have HBS7 : Hid (B ≤ w7.heap.size) := Nat.le_trans HBS6.out hb7.size
    have HO7 := Lib.hid ho7
    clear ho7 hb7 hn6 HB6 HO6 HBS5 HBS6 hz7
    have hr7 := rangeAt_ext hr3.out (HE.out w7 HB7.out)
    obtain ⟨t0, t1, t2, t3, t4, t5, t6, t7, t8, t9⟩ := RCell.ten hr7
    simp only [Nat.zero_add] at t0 t1 t2 t3 t4 t5 t6 t7 t8 t9
    clear hr7
    have hbq : x < w7.heap.size := Nat.lt_of_lt_of_le hbB HBS7.out
    go_wp2_with fail
    clear t0 t1 t2 t3 t4 t5 t6 t7 t8 t9 hbq
    generalize hw8 : World.alloc w7 _ = w8
    have hn8 : NumAt w8 w7.heap.size [b, s, m, k] := by subst hw8; exact NumAt.new _ _ _ _ rfl rfl
    have hx8 : w7.Extends w8 := by subst hw8; exact ext_alloc _ _
    have HB8 : Hid (Below B w3 w8) := by subst hw8; exact HB7.out.alloc HBS7.out _
    have HBS8 : Hid (B ≤ w8.heap.size) := Nat.le_trans HBS7.out hx8.size
    have HO8 := Lib.hid (owns_ext HO7.out hx8)
    clear hw8 hx8 HB7 HO7
    generalize w7.heap.size = y8 at *
    refine (wapp_new B _ z7 2 [b, s, m, k] y8 4 w8 (by omega) (by simp only [List.mem_cons, List.not_mem_nil, or_false, forall_eq_or_imp, forall_eq]; have := HPN.out; omega) (by have := HL7.out; omega) (by simp) HO8.out HBS8.out hn8).mono ?_
    rintro e' w9 ⟨a9, c9, z9, rfl, hz9, ho9, hb9⟩
    have HZ9 : Hid (z9 = z7 ++ KM.cat 2 [b, s, m, k]) := hz9
    have HL9 : Hid (z9.length ≤ 50) := by show _ ≤ _; rw [hz9, List.length_append, KM.cat_length]; have := HQ7.out; simp only [List.length_cons, List.length_nil]; omega
    have HQ9 : Hid (z9.length = 21) := by show _ = _; rw [hz9, List.length_append, KM.cat_length]; rw [HQ7.out]; rfl
    have HB9 : Hid (Below B w3 w9) := HB8.out.trans hb9
    have HBS9 : Hid (B ≤ w9.heap.size) := Nat.le_trans HBS8.out hb9.size
    have HO9 := Lib.hid ho9
    clear ho9 hb9 hn8 HB8 HO8 HBS7 HBS8 hz9
    have hr9 := rangeAt_ext hr3.out (HE.out w9 HB9.out)
    obtain ⟨t0, t1, t2, t3, t4, t5, t6, t7, t8, t9⟩ := RCell.ten hr9
    simp only [Nat.zero_add] at t0 t1 t2 t3 t4 t5 t6 t7 t8 t9
    clear hr9
    have hbq : x < w9.heap.size := Nat.lt_of_lt_of_le hbB HBS9.out
    go_wp2_with fail
    clear t0 t1 t2 t3 t4 t5 t6 t7 t8 t9 hbq
    generalize hw10 : World.alloc w9 _ = w10
    have hn10 : NumAt w10 w9.heap.size [e] := by subst hw10; exact NumAt.new _ _ _ _ rfl rfl
    have hx10 : w9.Extends w10 := by subst hw10; exact ext_alloc _ _
    have HB10 : Hid (Below B w3 w10) := by subst hw10; exact HB9.out.alloc HBS9.out _
    have HBS10 : Hid (B ≤ w10.heap.size) := Nat.le_trans HBS9.out hx10.size
    have HO10 := Lib.hid (owns_ext HO9.out hx10)
    clear hw10 hx10 HB9 HO9
    generalize w9.heap.size = y10 at *
    refine (wapp_new B _ z9 3 [e] y10 1 w10 (by omega) (by simp only [List.mem_cons, List.not_mem_nil, or_false, forall_eq]; have := HPN.out; omega) (by have := HL9.out; omega) (by simp) HO10.out HBS10.out hn10).mono ?_
    rintro e' w11 ⟨a11, c11, z11, rfl, hz11, ho11, hb11⟩
    have HZ11 : Hid (z11 = z9 ++ KM.cat 3 [e]) := hz11
    have HL11 : Hid (z11.length ≤ 50) := by show _ ≤ _; rw [hz11, List.length_append, KM.cat_length]; have := HQ9.out; simp only [List.length_cons, List.length_nil]; omega
    have HQ11 : Hid (z11.length = 24) := by show _ = _; rw [hz11, List.length_append, KM.cat_length]; rw [HQ9.out]; rfl
    have HB11 : Hid (Below B w3 w11) := HB10.out.trans hb11
    have HBS11 : Hid (B ≤ w11.heap.size) := Nat.le_trans HBS10.out hb11.size
    have HO11 := Lib.hid ho11
    clear ho11 hb11 hn10 HB10 HO10 HBS9 HBS10 hz11
    have hr11 := rangeAt_ext hr3.out (HE.out w11 HB11.out)
    obtain ⟨t0, t1, t2, t3, t4, t5, t6, t7, t8, t9⟩ := RCell.ten hr11
    simp only [Nat.zero_add] at t0 t1 t2 t3 t4 t5 t6 t7 t8 t9
    clear hr11
    have hbq : x < w11.heap.size := Nat.lt_of_lt_of_le hbB HBS11.out
    have HUQ := Lib.hid (HU2.out.ext (Gr.ext_trans HX3.out (HE.out _ HB11.out)))
    have HLT : Hid (∀ y ∈ z11, y < 256) := fun y hy => by rw [HZ11.out, HZ9.out, HZ7.out, HZ5.out] at hy; simp only [List.mem_append, List.not_mem_nil, false_or] at hy; rcases hy with ((h | h) | h) | h <;> exact KM.cat_lt _ _ y h
    have hds := HDS.out
    have hlq := HL11.out
    obtain ⟨ll, hll2⟩ : ∃ ll, ll = z11.length := ⟨_, rfl⟩
    rw [← hll2] at HO11 hlq ⊢
    clear hll2
    go_wp2_with (at_builtin; refine wpList_append_own_src _ rfl _ _ 26 26 rfl B 5 iu (.int .u8 0) 1 1 Try.underlying26 HI.out HZ0.out HZ1.out HZ2.out rfl _ _ _ rfl HO11.out _ dl (u8vs d) rfl (by have h := HUQ.out.src (P := Try.prog) Try.underlying26; rwa [← HDE.out] at h) (by unfold maxLen; omega) (by omega) HBS11.out ?_)
    intro v9_ w9_ ho9 hg9 _
    have HP : Hid (MadeBytesN w bs (.returned v9_) w9_) := by
      refine ⟨_, rfl, ?_, Gr.ext_trans HX3.out (HE.out _ (HB11.out.grown hg9 HBS11.out (fun g hg => (HO11.out.lt g hg).1))), fun g hg => Nat.le_trans HWB.out (ho9.lt g hg).1⟩
      rw [← u8vs_app1] at ho9
      rw [show bs = z11 ++ d by rw [HBY.out, HZ11.out, HZ9.out, HZ7.out, HZ5.out]]
      exact owns_u8s ho9 (fun z hz => (List.mem_append.1 hz).elim (HLT.out z) (HDL.out z))
    clear ho9 hg9
    go_wp2
    go_ret
    exact HP.out
end Go.Proofs.Ytdbdnfjgmdkneaa
namespace Go.Proofs.Ytdbdnfjgmdkneaa
set_option maxRecDepth 20000
open Go.RowKit Go.Deep
set_option linter.unusedVariables false
theorem below_ext {B : Nat} {w a b : World} (h : Below B w a) (hx : a.Extends b) (hs : B ≤ a.heap.size) : Below B w b :=
  ⟨hx.os.trans h.os, hx.tape.trans h.tape, hx.output.trans h.output, Nat.le_trans h.size hx.size, fun i hi => (hx.block i (by omega)).trans (h.block i hi)⟩
/-- What reading answers: a record, its data in memory; and the error. -/
def ROut (r : Rc) (er : Int) (w : World) (e : Ending) (w' : World) : Prop := ∃ a c, e = .returned (.tuple #[r.val (.slice a r.d.length c), .int .i64 er]) ∧ U8s w' (.slice a r.d.length c) r.d ∧ w.Extends w'
/-- And the data lie in memory of the call's own. -/
def ROutN (r : Rc) (er : Int) (w : World) (e : Ending) (w' : World) : Prop := ∃ a c, e = .returned (.tuple #[r.val (.slice a r.d.length c), .int .i64 er]) ∧ U8s w' (.slice a r.d.length c) r.d ∧ w.Extends w' ∧ ∀ g, (Value.slice a r.d.length c).ownBlock = some g → w.heap.size ≤ g
theorem ROutN.old {r : Rc} {er : Int} {w w' : World} {e : Ending} (h : ROutN r er w e w') : ROut r er w e w' := by
  obtain ⟨a, c, h1, h2, h3, _⟩ := h
  exact ⟨a, c, h1, h2, h3⟩
theorem own_len {a : Option Addr} {c n m g : Nat} (h : (Value.slice a n c).ownBlock = some g) : (Value.slice a m c).ownBlock = some g := by cases a <;> exact h
set_option maxHeartbeats 4000000 in
theorem read_yes (v : Value) (xs : List Nat) (w : World) (hv : U8s w v xs) (r : Rc)
    (htk : ∀ t w', CurAt 126 w' t (xs, false) → Calls Try.prog 60 #[.pointer (some ⟨t, 0, none⟩)] w' fun e w2 => ∃ a c, e = .returned (.tuple #[r.val (.slice a r.d.length c), .bool true]) ∧ U8s w2 (.slice a r.d.length c) r.d ∧ w'.grownBy w2 (some t)) :
    KM.Right r → Calls Try.prog 16 #[v] w (ROutN r 0 w) := by
  obtain ⟨va, vc, rfl, _, _⟩ := hv.slice
  obtain ⟨xl, hxl⟩ : ∃ xl, xl = xs.length := ⟨_, rfl⟩
  rw [← hxl] at hv ⊢
  have HV := Lib.hid hv
  have HTK := Lib.hid htk
  have HOF : Hid (∀ w', w.Extends w' → Calls Try.prog 61 #[.slice va xl vc] w' fun e w2 => ∃ t, e = .returned (.pointer (some ⟨t, 0, none⟩)) ∧ CurAt 126 w2 t (xs, false) ∧ w'.Extends w2 ∧ w'.heap.size ≤ t) := fun w' hx => of_any _ xs w' (HV.out.ext hx)
  have HRY : Hid (∀ w' a c, KM.Right r → Calls Try.prog 18 #[r.val (.slice a r.d.length c)] w' fun e w2 => e = .returned (.bool true) ∧ w'.Extends w2) := fun w' a c h => right14_yes r a c w' h
  have HRN : Hid (∀ w' a c, ¬ KM.Right r → Calls Try.prog 18 #[r.val (.slice a r.d.length c)] w' fun e w2 => e = .returned (.bool false) ∧ w'.Extends w2) := fun w' a c h => right14_no r a c w' h
  have HDS : Hid (KM.Right r → r.d.length ≤ 64) := fun h => by
    obtain ⟨_, _, _, h4, h5⟩ := h
    cases hg : r.g with
    | true => rw [(h4 hg).2.2]; exact Nat.zero_le _
    | false =>
      obtain ⟨⟨⟨_, _, _, h6, _⟩, _⟩, _, h8⟩ := h5 hg
      omega
  clear hv htk hxl HV
  obtain ⟨p, n, b, s, m, k, e, g, u, d⟩ := r
  obtain ⟨RI, hri⟩ : ∃ RI, RI ↔ KM.Right ⟨p, n, b, s, m, k, e, g, u, d⟩ := ⟨_, Iff.rfl⟩
  rw [← hri]
  have HRI : Hid (RI ↔ KM.Right ⟨p, n, b, s, m, k, e, g, u, d⟩) := hri
  clear hri
  obtain ⟨dl, hdl⟩ : ∃ dl, dl = d.length := ⟨_, rfl⟩
  have HDL := Lib.hid hdl
  have HTK2 : Hid (∀ t w', CurAt 126 w' t (xs, false) → Calls Try.prog 60 #[.pointer (some ⟨t, 0, none⟩)] w' fun e' w2 => ∃ a c, e' = .returned (.tuple #[.agg #[.int .i64 p, .int .i64 n, .int .i64 b, .int .i64 s, .int .i64 m, .int .i64 k, .int .i64 e, .bool g, .int .i64 u, .slice a dl c], .bool true]) ∧ U8s w2 (.slice a dl c) d ∧ w'.grownBy w2 (some t)) := by rw [hdl]; exact HTK.out
  have HRY2 : Hid (∀ w' a c, RI → Calls Try.prog 18 #[.agg #[.int .i64 p, .int .i64 n, .int .i64 b, .int .i64 s, .int .i64 m, .int .i64 k, .int .i64 e, .bool g, .int .i64 u, .slice a dl c]] w' fun e' w2 => e' = .returned (.bool true) ∧ w'.Extends w2) := by rw [hdl]; exact fun w' a c h => HRY.out w' a c (HRI.out.1 h)
  have HRN2 : Hid (∀ w' a c, ¬ RI → Calls Try.prog 18 #[.agg #[.int .i64 p, .int .i64 n, .int .i64 b, .int .i64 s, .int .i64 m, .int .i64 k, .int .i64 e, .bool g, .int .i64 u, .slice a dl c]] w' fun e' w2 => e' = .returned (.bool false) ∧ w'.Extends w2) := by rw [hdl]; exact fun w' a c h => HRN.out w' a c (fun h' => h (HRI.out.2 h'))
  have HDS2 : Hid (RI → dl ≤ 64) := by rw [hdl]; exact fun h => HDS.out (HRI.out.1 h)
  clear HTK HRY HRN HDS hdl HRI
  obtain ⟨iu, hiu, hz0, hz1, hz2⟩ := info_parts byteinfo
  have HI := Lib.hid hiu
  have HZ0 := Lib.hid hz0
  have HZ1 := Lib.hid hz1
  have HZ2 := Lib.hid hz2
  clear hiu hz0 hz1 hz2
  intro hri
  go_enter Try.func16, Try.ntmps16
  go_wp2_with fail
  generalize hw1 : World.alloc w _ = w1
  have hx1 : w.Extends w1 := by subst hw1; exact ext_alloc _ _
  have ha : R10 w1 w.heap.size [.int .i64 0, .int .i64 0, .int .i64 0, .int .i64 0, .int .i64 0, .int .i64 0, .int .i64 0, .bool false, .int .i64 0, .slice none 0 0] := by subst hw1; exact heap_alloc_new _ _
  obtain ⟨B, hB⟩ : ∃ B, B = w.heap.size := ⟨_, rfl⟩
  obtain ⟨b2, hb2⟩ : ∃ b, b = w.heap.size := ⟨_, rfl⟩
  rw [← hb2] at ha ⊢
  have hsz := ha.lt
  have HE : Hid (∀ w', Below B w w' → w.Extends w') := fun w' h => ext_below h hB
  have HBW : Hid (w.heap.size ≤ B) := by rw [hB]; exact Nat.le_refl _
  have HB1 : Hid (Below B w w1) := by rw [hB]; exact Gr.below_of hx1
  have HX1 := Lib.hid hx1
  have HBB : Hid (B ≤ b2) := by show _ ≤ _; omega
  clear hw1 hx1 hB hb2
  refine (HOF.out w1 HX1.out).mono ?_
  rintro e' w2 ⟨t, rfl, hc, hx2, ht⟩
  have HNE : Hid (b2 ≠ t ∧ B ≤ t ∧ B ≤ b2) := by have := HBB.out; show _ ∧ _; omega
  have HB2 := Lib.hid (below_ext HB1.out hx2 (by have := HBB.out; omega))
  have HA2 := Lib.hid (ha.ext hx2)
  have HSZ2 : Hid (B ≤ w2.heap.size) := by have := HBB.out; have := hx2.size; show _ ≤ _; omega
  have HC2 := Lib.hid hc
  clear hc hx2 ht ha HB1 HX1 hsz HOF
  go_wp2_with fail
  refine (HTK2.out t w2 HC2.out).mono ?_
  rintro e' w3 ⟨a, c, rfl, hu, hg⟩
  have HU3 := Lib.hid hu
  have HB3 := Lib.hid (HB2.out.grown hg HSZ2.out (fun j hj => by simp at hj; have := HNE.out; omega))
  have HA3 := Lib.hid (HA2.out.kept hg HNE.out.1)
  have HSZ3 : Hid (B ≤ w3.heap.size) := Nat.le_trans HSZ2.out hg.size
  clear hu hg HB2 HA2 HC2 HSZ2 HTK2
  go_wp2_with fail
  generalize hw4 : World.alloc w3 _ = w4
  have hx4 : w3.Extends w4 := by subst hw4; exact ext_alloc _ _
  have hr : R10 w4 w3.heap.size [.int .i64 p, .int .i64 n, .int .i64 b, .int .i64 s, .int .i64 m, .int .i64 k, .int .i64 e, .bool g, .int .i64 u, .slice a dl c] := by subst hw4; exact heap_alloc_new _ _
  have hlt := HA3.out.lt
  obtain ⟨b4, hb4⟩ : ∃ b, b = w3.heap.size := ⟨_, rfl⟩
  rw [← hb4] at hr ⊢
  have HN4 : Hid (b2 ≠ b4 ∧ B ≤ b4) := by have := HNE.out; show _ ∧ _; omega
  have HA4 := Lib.hid (HA3.out.ext hx4)
  have HU4 := Lib.hid (HU3.out.ext hx4)
  have HB4 := Lib.hid (below_ext HB3.out hx4 HSZ3.out)
  have HSZ4 : Hid (B ≤ w4.heap.size) := Nat.le_trans HSZ3.out hx4.size
  have HR4 := Lib.hid hr
  clear hw4 hx4 hr hlt hb4 HA3 HU3 HB3 HSZ3
  refine (HRY2.out w4 a c hri).mono ?_
  rintro e' w5 ⟨rfl, hx5⟩
  have HA5 := Lib.hid (HA4.out.ext hx5)
  have HR5 := Lib.hid (HR4.out.ext hx5)
  have HU5 := Lib.hid (HU4.out.ext hx5)
  have HB5 := Lib.hid (below_ext HB4.out hx5 HSZ4.out)
  have HSZ5 : Hid (B ≤ w5.heap.size) := Nat.le_trans HSZ4.out hx5.size
  clear hx5 HR4 HU4 HA4 HB4 HSZ4
  have hdl := HDS2.out hri
  have t9 := HR5.out.cell 9 _ rfl
  have hb4 := HR5.out.lt
  go_wp2_with (at_builtin; refine wpList_append_own_src _ rfl _ _ 26 26 rfl w5.heap.size 5 iu (.int .u8 0) 1 1 Try.underlying26 HI.out HZ0.out HZ1.out HZ2.out rfl (.slice none 0 0) 0 [] rfl (World.ownsRow_nil _ _ _ _) _ dl (u8vs d) rfl (by have h := HU5.out; rw [HDL.out] at h ⊢; exact h.src Try.underlying26) (by unfold maxLen; omega) (by omega) (Nat.le_refl _) ?_)
  intro v9 w9 ho9 hg9 _
  obtain ⟨a9, c9, rfl⟩ := owns_slice ho9
  have hx9 : w5.Extends w9 := ext_below ⟨hg9.os, hg9.tape, hg9.output, hg9.size, fun i hi => hg9.block i hi (by simp [Value.ownBlock])⟩ rfl
  have HU9 : Hid (U8s w9 (.slice a9 dl c9) d) := by have h := owns_u8s ho9 HU5.out.lt; exact h
  have HO9 : Hid (∀ g, (Value.slice a9 dl c9).ownBlock = some g → w.heap.size ≤ g) := fun g hg => by have h1 := (ho9.lt g hg).1; have h2 := HSZ5.out; have h3 := HBW.out; omega
  have HA9 := Lib.hid (HA5.out.ext hx9)
  have HR9 := Lib.hid (HR5.out.ext hx9)
  have HB9 := Lib.hid (below_ext HB5.out hx9 HSZ5.out)
  have HSZ9 : Hid (B ≤ w9.heap.size) := Nat.le_trans HSZ5.out hx9.size
  clear ho9 hg9 hx9 t9 hb4 HR5 HU5 HA5 HB5 HSZ5 hdl
  have hne := HN4.out.1
  have t0 := HA9.out.cell 0 _ rfl
  have t1 := HA9.out.cell 1 _ rfl
  have t2 := HA9.out.cell 2 _ rfl
  have t3 := HA9.out.cell 3 _ rfl
  have t4 := HA9.out.cell 4 _ rfl
  have t5 := HA9.out.cell 5 _ rfl
  have t6 := HA9.out.cell 6 _ rfl
  have t7 := HA9.out.cell 7 _ rfl
  have t8 := HA9.out.cell 8 _ rfl
  have t9 := HA9.out.cell 9 _ rfl
  have f0 := HA9.out.frozen 0
  have f1 := HA9.out.frozen 1
  have f2 := HA9.out.frozen 2
  have f3 := HA9.out.frozen 3
  have f4 := HA9.out.frozen 4
  have f5 := HA9.out.frozen 5
  have f6 := HA9.out.frozen 6
  have f7 := HA9.out.frozen 7
  have f8 := HA9.out.frozen 8
  have f9 := HA9.out.frozen 9
  have r0 := HR9.out.cell 0 _ rfl
  have r1 := HR9.out.cell 1 _ rfl
  have r2 := HR9.out.cell 2 _ rfl
  have r3 := HR9.out.cell 3 _ rfl
  have r4 := HR9.out.cell 4 _ rfl
  have r5 := HR9.out.cell 5 _ rfl
  have r6 := HR9.out.cell 6 _ rfl
  have r7 := HR9.out.cell 7 _ rfl
  have r8 := HR9.out.cell 8 _ rfl
  have r9 := HR9.out.cell 9 _ rfl
  have s0 := HR9.out.frozen 0
  have s1 := HR9.out.frozen 1
  have s2 := HR9.out.frozen 2
  have s3 := HR9.out.frozen 3
  have s4 := HR9.out.frozen 4
  have s5 := HR9.out.frozen 5
  have s6 := HR9.out.frozen 6
  have s7 := HR9.out.frozen 7
  have s8 := HR9.out.frozen 8
  have s9 := HR9.out.frozen 9
  have hb2 := HA9.out.lt
  have hb4 := HR9.out.lt
  go_wp2
  clear t0 t1 t2 t3 t4 t5 t6 t7 t8 t9 f0 f1 f2 f3 f4 f5 f6 f7 f8 f9 r0 r1 r2 r3 r4 r5 r6 r7 r8 r9 s0 s1 s2 s3 s4 s5 s6 s7 s8 s9 hb2 hb4 hne
  obtain ⟨w10, hw10⟩ : ∃ w', w' = w9.setCell ⟨b4, 9, none⟩ (.slice a9 dl c9) := ⟨_, rfl⟩
  rw [← hw10]
  have hg10 : w9.grownBy w10 (some b4) := by subst hw10; exact grown_set w9 b4 9 (.slice a9 dl c9)
  have HA10 := Lib.hid (HA9.out.kept hg10 HN4.out.1)
  have HB10 := Lib.hid (HB9.out.grown hg10 HSZ9.out (fun j hj => by simp at hj; have := HN4.out; omega))
  have HU10 := Lib.hid (HU9.out.by10 HR9.out (by intro y hy n e; subst e; simp at hy) hg10)
  have HSZ10 : Hid (B ≤ w10.heap.size) := Nat.le_trans HSZ9.out hg10.size
  clear hw10 hg10
  obtain ⟨wf, hw⟩ : ∃ w', w' = (((((((((w10.setCell ⟨b2, 0, none⟩ (.int .i64 p)).setCell ⟨b2, 1, none⟩ (.int .i64 n)).setCell ⟨b2, 2, none⟩ (.int .i64 b)).setCell ⟨b2, 3, none⟩ (.int .i64 s)).setCell ⟨b2, 4, none⟩ (.int .i64 m)).setCell ⟨b2, 5, none⟩ (.int .i64 k)).setCell ⟨b2, 6, none⟩ (.int .i64 e)).setCell ⟨b2, 7, none⟩ (.bool g)).setCell ⟨b2, 8, none⟩ (.int .i64 u)).setCell ⟨b2, 9, none⟩ (.slice a9 dl c9) := ⟨_, rfl⟩
  rw [← hw]
  have hg : w10.grownBy wf (some b2) := by subst hw; exact (((((((((grown_set w10 b2 0 (.int .i64 p)).trans (grown_set _ b2 1 (.int .i64 n))).trans (grown_set _ b2 2 (.int .i64 b))).trans (grown_set _ b2 3 (.int .i64 s))).trans (grown_set _ b2 4 (.int .i64 m))).trans (grown_set _ b2 5 (.int .i64 k))).trans (grown_set _ b2 6 (.int .i64 e))).trans (grown_set _ b2 7 (.bool g))).trans (grown_set _ b2 8 (.int .i64 u))).trans (grown_set _ b2 9 (.slice a9 dl c9))
  have HAF : R10 wf b2 [.int .i64 p, .int .i64 n, .int .i64 b, .int .i64 s, .int .i64 m, .int .i64 k, .int .i64 e, .bool g, .int .i64 u, .slice a9 dl c9] := by subst hw; exact ((((((((((HA10.out.set 0 (.int .i64 p)).set 1 (.int .i64 n)).set 2 (.int .i64 b)).set 3 (.int .i64 s)).set 4 (.int .i64 m)).set 5 (.int .i64 k)).set 6 (.int .i64 e)).set 7 (.bool g)).set 8 (.int .i64 u)).set 9 (.slice a9 dl c9))
  have HP : Hid (ROutN ⟨p, n, b, s, m, k, e, g, u, d⟩ 0 w (.returned (.tuple #[.agg #[.int .i64 p, .int .i64 n, .int .i64 b, .int .i64 s, .int .i64 m, .int .i64 k, .int .i64 e, .bool g, .int .i64 u, .slice a9 dl c9], .int .i64 0])) wf) := by
    refine ⟨a9, c9, ?_, ?_, HE.out _ (HB10.out.grown hg HSZ10.out (fun j hj => by simp at hj; have := HNE.out; omega)), fun g hg => HO9.out g (own_len hg)⟩
    · rw [HDL.out]; rfl
    · show U8s wf (.slice a9 d.length c9) d
      rw [← HDL.out]; exact HU10.out.by10 HA10.out (by intro y hy n e; subst e; simp at hy) hg
  clear hw hg
  have t0 := HAF.cell 0 _ rfl
  have t1 := HAF.cell 1 _ rfl
  have t2 := HAF.cell 2 _ rfl
  have t3 := HAF.cell 3 _ rfl
  have t4 := HAF.cell 4 _ rfl
  have t5 := HAF.cell 5 _ rfl
  have t6 := HAF.cell 6 _ rfl
  have t7 := HAF.cell 7 _ rfl
  have t8 := HAF.cell 8 _ rfl
  have t9 := HAF.cell 9 _ rfl
  have hbl := HAF.lt
  clear HAF
  refine bodyPost_ret (by simp [results, Try.results16, go_sem, t0, t1, t2, t3, t4, t5, t6, t7, t8, t9]; try rfl) rfl ?_
  exact HP.out
set_option maxHeartbeats 4000000 in
theorem read_no (v : Value) (xs : List Nat) (w : World) (hv : U8s w v xs) (r : Rc)
    (htk : ∀ t w', CurAt 126 w' t (xs, false) → Calls Try.prog 60 #[.pointer (some ⟨t, 0, none⟩)] w' fun e w2 => ∃ a c, e = .returned (.tuple #[r.val (.slice a r.d.length c), .bool true]) ∧ U8s w2 (.slice a r.d.length c) r.d ∧ w'.grownBy w2 (some t)) :
    ¬ KM.Right r → Calls Try.prog 16 #[v] w (ROutN Rc.zero 2 w) := by
  obtain ⟨va, vc, rfl, _, _⟩ := hv.slice
  obtain ⟨xl, hxl⟩ : ∃ xl, xl = xs.length := ⟨_, rfl⟩
  rw [← hxl] at hv ⊢
  have HV := Lib.hid hv
  have HTK := Lib.hid htk
  have HOF : Hid (∀ w', w.Extends w' → Calls Try.prog 61 #[.slice va xl vc] w' fun e w2 => ∃ t, e = .returned (.pointer (some ⟨t, 0, none⟩)) ∧ CurAt 126 w2 t (xs, false) ∧ w'.Extends w2 ∧ w'.heap.size ≤ t) := fun w' hx => of_any _ xs w' (HV.out.ext hx)
  have HRY : Hid (∀ w' a c, KM.Right r → Calls Try.prog 18 #[r.val (.slice a r.d.length c)] w' fun e w2 => e = .returned (.bool true) ∧ w'.Extends w2) := fun w' a c h => right14_yes r a c w' h
  have HRN : Hid (∀ w' a c, ¬ KM.Right r → Calls Try.prog 18 #[r.val (.slice a r.d.length c)] w' fun e w2 => e = .returned (.bool false) ∧ w'.Extends w2) := fun w' a c h => right14_no r a c w' h
  have HDS : Hid (KM.Right r → r.d.length ≤ 64) := fun h => by
    obtain ⟨_, _, _, h4, h5⟩ := h
    cases hg : r.g with
    | true => rw [(h4 hg).2.2]; exact Nat.zero_le _
    | false =>
      obtain ⟨⟨⟨_, _, _, h6, _⟩, _⟩, _, h8⟩ := h5 hg
      omega
  clear hv htk hxl HV
  obtain ⟨p, n, b, s, m, k, e, g, u, d⟩ := r
  obtain ⟨RI, hri⟩ : ∃ RI, RI ↔ KM.Right ⟨p, n, b, s, m, k, e, g, u, d⟩ := ⟨_, Iff.rfl⟩
  rw [← hri]
  have HRI : Hid (RI ↔ KM.Right ⟨p, n, b, s, m, k, e, g, u, d⟩) := hri
  clear hri
  obtain ⟨dl, hdl⟩ : ∃ dl, dl = d.length := ⟨_, rfl⟩
  have HDL := Lib.hid hdl
  have HTK2 : Hid (∀ t w', CurAt 126 w' t (xs, false) → Calls Try.prog 60 #[.pointer (some ⟨t, 0, none⟩)] w' fun e' w2 => ∃ a c, e' = .returned (.tuple #[.agg #[.int .i64 p, .int .i64 n, .int .i64 b, .int .i64 s, .int .i64 m, .int .i64 k, .int .i64 e, .bool g, .int .i64 u, .slice a dl c], .bool true]) ∧ U8s w2 (.slice a dl c) d ∧ w'.grownBy w2 (some t)) := by rw [hdl]; exact HTK.out
  have HRY2 : Hid (∀ w' a c, RI → Calls Try.prog 18 #[.agg #[.int .i64 p, .int .i64 n, .int .i64 b, .int .i64 s, .int .i64 m, .int .i64 k, .int .i64 e, .bool g, .int .i64 u, .slice a dl c]] w' fun e' w2 => e' = .returned (.bool true) ∧ w'.Extends w2) := by rw [hdl]; exact fun w' a c h => HRY.out w' a c (HRI.out.1 h)
  have HRN2 : Hid (∀ w' a c, ¬ RI → Calls Try.prog 18 #[.agg #[.int .i64 p, .int .i64 n, .int .i64 b, .int .i64 s, .int .i64 m, .int .i64 k, .int .i64 e, .bool g, .int .i64 u, .slice a dl c]] w' fun e' w2 => e' = .returned (.bool false) ∧ w'.Extends w2) := by rw [hdl]; exact fun w' a c h => HRN.out w' a c (fun h' => h (HRI.out.2 h'))
  have HDS2 : Hid (RI → dl ≤ 64) := by rw [hdl]; exact fun h => HDS.out (HRI.out.1 h)
  clear HTK HRY HRN HDS hdl HRI
  obtain ⟨iu, hiu, hz0, hz1, hz2⟩ := info_parts byteinfo
  have HI := Lib.hid hiu
  have HZ0 := Lib.hid hz0
  have HZ1 := Lib.hid hz1
  have HZ2 := Lib.hid hz2
  clear hiu hz0 hz1 hz2
  intro hri
  go_enter Try.func16, Try.ntmps16
  go_wp2_with fail
  generalize hw1 : World.alloc w _ = w1
  have hx1 : w.Extends w1 := by subst hw1; exact ext_alloc _ _
  have ha : R10 w1 w.heap.size [.int .i64 0, .int .i64 0, .int .i64 0, .int .i64 0, .int .i64 0, .int .i64 0, .int .i64 0, .bool false, .int .i64 0, .slice none 0 0] := by subst hw1; exact heap_alloc_new _ _
  obtain ⟨B, hB⟩ : ∃ B, B = w.heap.size := ⟨_, rfl⟩
  obtain ⟨b2, hb2⟩ : ∃ b, b = w.heap.size := ⟨_, rfl⟩
  rw [← hb2] at ha ⊢
  have hsz := ha.lt
  have HE : Hid (∀ w', Below B w w' → w.Extends w') := fun w' h => ext_below h hB
  have HBW : Hid (w.heap.size ≤ B) := by rw [hB]; exact Nat.le_refl _
  have HB1 : Hid (Below B w w1) := by rw [hB]; exact Gr.below_of hx1
  have HX1 := Lib.hid hx1
  have HBB : Hid (B ≤ b2) := by show _ ≤ _; omega
  clear hw1 hx1 hB hb2
  refine (HOF.out w1 HX1.out).mono ?_
  rintro e' w2 ⟨t, rfl, hc, hx2, ht⟩
  have HNE : Hid (b2 ≠ t ∧ B ≤ t ∧ B ≤ b2) := by have := HBB.out; show _ ∧ _; omega
  have HB2 := Lib.hid (below_ext HB1.out hx2 (by have := HBB.out; omega))
  have HA2 := Lib.hid (ha.ext hx2)
  have HSZ2 : Hid (B ≤ w2.heap.size) := by have := HBB.out; have := hx2.size; show _ ≤ _; omega
  have HC2 := Lib.hid hc
  clear hc hx2 ht ha HB1 HX1 hsz HOF
  go_wp2_with fail
  refine (HTK2.out t w2 HC2.out).mono ?_
  rintro e' w3 ⟨a, c, rfl, hu, hg⟩
  have HU3 := Lib.hid hu
  have HB3 := Lib.hid (HB2.out.grown hg HSZ2.out (fun j hj => by simp at hj; have := HNE.out; omega))
  have HA3 := Lib.hid (HA2.out.kept hg HNE.out.1)
  have HSZ3 : Hid (B ≤ w3.heap.size) := Nat.le_trans HSZ2.out hg.size
  clear hu hg HB2 HA2 HC2 HSZ2 HTK2
  go_wp2_with fail
  generalize hw4 : World.alloc w3 _ = w4
  have hx4 : w3.Extends w4 := by subst hw4; exact ext_alloc _ _
  have hr : R10 w4 w3.heap.size [.int .i64 p, .int .i64 n, .int .i64 b, .int .i64 s, .int .i64 m, .int .i64 k, .int .i64 e, .bool g, .int .i64 u, .slice a dl c] := by subst hw4; exact heap_alloc_new _ _
  have hlt := HA3.out.lt
  obtain ⟨b4, hb4⟩ : ∃ b, b = w3.heap.size := ⟨_, rfl⟩
  rw [← hb4] at hr ⊢
  have HN4 : Hid (b2 ≠ b4 ∧ B ≤ b4) := by have := HNE.out; show _ ∧ _; omega
  have HA4 := Lib.hid (HA3.out.ext hx4)
  have HU4 := Lib.hid (HU3.out.ext hx4)
  have HB4 := Lib.hid (below_ext HB3.out hx4 HSZ3.out)
  have HSZ4 : Hid (B ≤ w4.heap.size) := Nat.le_trans HSZ3.out hx4.size
  have HR4 := Lib.hid hr
  clear hw4 hx4 hr hlt hb4 HA3 HU3 HB3 HSZ3
  refine (HRN2.out w4 a c hri).mono ?_
  rintro e' w5 ⟨rfl, hx5⟩
  have HA5 := Lib.hid (HA4.out.ext hx5)
  have HB5 := Lib.hid (below_ext HB4.out hx5 HSZ4.out)
  have HSZ5 : Hid (B ≤ w5.heap.size) := Nat.le_trans HSZ4.out hx5.size
  clear hx5 HR4 HU4 HA4 HB4 HSZ4
  have t0 := HA5.out.cell 0 _ rfl
  have t1 := HA5.out.cell 1 _ rfl
  have t2 := HA5.out.cell 2 _ rfl
  have t3 := HA5.out.cell 3 _ rfl
  have t4 := HA5.out.cell 4 _ rfl
  have t5 := HA5.out.cell 5 _ rfl
  have t6 := HA5.out.cell 6 _ rfl
  have t7 := HA5.out.cell 7 _ rfl
  have t8 := HA5.out.cell 8 _ rfl
  have t9 := HA5.out.cell 9 _ rfl
  have f0 := HA5.out.frozen 0
  have f1 := HA5.out.frozen 1
  have f2 := HA5.out.frozen 2
  have f3 := HA5.out.frozen 3
  have f4 := HA5.out.frozen 4
  have f5 := HA5.out.frozen 5
  have f6 := HA5.out.frozen 6
  have f7 := HA5.out.frozen 7
  have f8 := HA5.out.frozen 8
  have f9 := HA5.out.frozen 9
  have hbl := HA5.out.lt
  go_wp2
  clear t0 t1 t2 t3 t4 t5 t6 t7 t8 t9 f0 f1 f2 f3 f4 f5 f6 f7 f8 f9 hbl
  obtain ⟨wf, hw⟩ : ∃ w', w' = (((((((((w5.setCell ⟨b2, 0, none⟩ (.int .i64 0)).setCell ⟨b2, 1, none⟩ (.int .i64 0)).setCell ⟨b2, 2, none⟩ (.int .i64 0)).setCell ⟨b2, 3, none⟩ (.int .i64 0)).setCell ⟨b2, 4, none⟩ (.int .i64 0)).setCell ⟨b2, 5, none⟩ (.int .i64 0)).setCell ⟨b2, 6, none⟩ (.int .i64 0)).setCell ⟨b2, 7, none⟩ (.bool false)).setCell ⟨b2, 8, none⟩ (.int .i64 0)).setCell ⟨b2, 9, none⟩ (.slice none 0 0) := ⟨_, rfl⟩
  rw [← hw]
  have hg : w5.grownBy wf (some b2) := by subst hw; exact (((((((((grown_set w5 b2 0 (.int .i64 0)).trans (grown_set _ b2 1 (.int .i64 0))).trans (grown_set _ b2 2 (.int .i64 0))).trans (grown_set _ b2 3 (.int .i64 0))).trans (grown_set _ b2 4 (.int .i64 0))).trans (grown_set _ b2 5 (.int .i64 0))).trans (grown_set _ b2 6 (.int .i64 0))).trans (grown_set _ b2 7 (.bool false))).trans (grown_set _ b2 8 (.int .i64 0))).trans (grown_set _ b2 9 (.slice none 0 0))
  have HAF : R10 wf b2 [.int .i64 0, .int .i64 0, .int .i64 0, .int .i64 0, .int .i64 0, .int .i64 0, .int .i64 0, .bool false, .int .i64 0, .slice none 0 0] := by subst hw; exact ((((((((((HA5.out.set 0 (.int .i64 0)).set 1 (.int .i64 0)).set 2 (.int .i64 0)).set 3 (.int .i64 0)).set 4 (.int .i64 0)).set 5 (.int .i64 0)).set 6 (.int .i64 0)).set 7 (.bool false)).set 8 (.int .i64 0)).set 9 (.slice none 0 0))
  have HP : Hid (ROutN Rc.zero 2 w (.returned (.tuple #[.agg #[.int .i64 0, .int .i64 0, .int .i64 0, .int .i64 0, .int .i64 0, .int .i64 0, .int .i64 0, .bool false, .int .i64 0, .slice none 0 0], .int .i64 2])) wf) := ⟨none, 0, rfl, nil_u8s _ _ _, HE.out _ (HB5.out.grown hg HSZ5.out (fun j hj => by simp at hj; have := HNE.out; omega)), fun g hg => by cases hg⟩
  clear hw hg
  have t0 := HAF.cell 0 _ rfl
  have t1 := HAF.cell 1 _ rfl
  have t2 := HAF.cell 2 _ rfl
  have t3 := HAF.cell 3 _ rfl
  have t4 := HAF.cell 4 _ rfl
  have t5 := HAF.cell 5 _ rfl
  have t6 := HAF.cell 6 _ rfl
  have t7 := HAF.cell 7 _ rfl
  have t8 := HAF.cell 8 _ rfl
  have t9 := HAF.cell 9 _ rfl
  have hbl := HAF.lt
  clear HAF
  refine bodyPost_ret (by simp [results, Try.results16, go_sem, t0, t1, t2, t3, t4, t5, t6, t7, t8, t9]; try rfl) rfl ?_
  exact HP.out
set_option maxHeartbeats 4000000 in
theorem read_bad (v : Value) (xs : List Nat) (w : World) (hv : U8s w v xs) (r : Rc)
    (htk : ∀ t w', CurAt 126 w' t (xs, false) → Calls Try.prog 60 #[.pointer (some ⟨t, 0, none⟩)] w' fun e w2 => ∃ a c, e = .returned (.tuple #[r.val (.slice a r.d.length c), .bool false]) ∧ U8s w2 (.slice a r.d.length c) r.d ∧ w'.grownBy w2 (some t)) :
    Calls Try.prog 16 #[v] w (ROutN Rc.zero 2 w) := by
  obtain ⟨va, vc, rfl, _, _⟩ := hv.slice
  obtain ⟨xl, hxl⟩ : ∃ xl, xl = xs.length := ⟨_, rfl⟩
  rw [← hxl] at hv ⊢
  have HV := Lib.hid hv
  have HTK := Lib.hid htk
  have HOF : Hid (∀ w', w.Extends w' → Calls Try.prog 61 #[.slice va xl vc] w' fun e w2 => ∃ t, e = .returned (.pointer (some ⟨t, 0, none⟩)) ∧ CurAt 126 w2 t (xs, false) ∧ w'.Extends w2 ∧ w'.heap.size ≤ t) := fun w' hx => of_any _ xs w' (HV.out.ext hx)
  have HRY : Hid (∀ w' a c, KM.Right r → Calls Try.prog 18 #[r.val (.slice a r.d.length c)] w' fun e w2 => e = .returned (.bool true) ∧ w'.Extends w2) := fun w' a c h => right14_yes r a c w' h
  have HRN : Hid (∀ w' a c, ¬ KM.Right r → Calls Try.prog 18 #[r.val (.slice a r.d.length c)] w' fun e w2 => e = .returned (.bool false) ∧ w'.Extends w2) := fun w' a c h => right14_no r a c w' h
  have HDS : Hid (KM.Right r → r.d.length ≤ 64) := fun h => by
    obtain ⟨_, _, _, h4, h5⟩ := h
    cases hg : r.g with
    | true => rw [(h4 hg).2.2]; exact Nat.zero_le _
    | false =>
      obtain ⟨⟨⟨_, _, _, h6, _⟩, _⟩, _, h8⟩ := h5 hg
      omega
  clear hv htk hxl HV
  obtain ⟨p, n, b, s, m, k, e, g, u, d⟩ := r
  obtain ⟨RI, hri⟩ : ∃ RI, RI ↔ KM.Right ⟨p, n, b, s, m, k, e, g, u, d⟩ := ⟨_, Iff.rfl⟩
  have HRI : Hid (RI ↔ KM.Right ⟨p, n, b, s, m, k, e, g, u, d⟩) := hri
  clear hri
  obtain ⟨dl, hdl⟩ : ∃ dl, dl = d.length := ⟨_, rfl⟩
  have HDL := Lib.hid hdl
  have HTK2 : Hid (∀ t w', CurAt 126 w' t (xs, false) → Calls Try.prog 60 #[.pointer (some ⟨t, 0, none⟩)] w' fun e' w2 => ∃ a c, e' = .returned (.tuple #[.agg #[.int .i64 p, .int .i64 n, .int .i64 b, .int .i64 s, .int .i64 m, .int .i64 k, .int .i64 e, .bool g, .int .i64 u, .slice a dl c], .bool false]) ∧ U8s w2 (.slice a dl c) d ∧ w'.grownBy w2 (some t)) := by rw [hdl]; exact HTK.out
  have HRY2 : Hid (∀ w' a c, RI → Calls Try.prog 18 #[.agg #[.int .i64 p, .int .i64 n, .int .i64 b, .int .i64 s, .int .i64 m, .int .i64 k, .int .i64 e, .bool g, .int .i64 u, .slice a dl c]] w' fun e' w2 => e' = .returned (.bool true) ∧ w'.Extends w2) := by rw [hdl]; exact fun w' a c h => HRY.out w' a c (HRI.out.1 h)
  have HRN2 : Hid (∀ w' a c, ¬ RI → Calls Try.prog 18 #[.agg #[.int .i64 p, .int .i64 n, .int .i64 b, .int .i64 s, .int .i64 m, .int .i64 k, .int .i64 e, .bool g, .int .i64 u, .slice a dl c]] w' fun e' w2 => e' = .returned (.bool false) ∧ w'.Extends w2) := by rw [hdl]; exact fun w' a c h => HRN.out w' a c (fun h' => h (HRI.out.2 h'))
  have HDS2 : Hid (RI → dl ≤ 64) := by rw [hdl]; exact fun h => HDS.out (HRI.out.1 h)
  clear HTK HRY HRN HDS hdl HRI
  obtain ⟨iu, hiu, hz0, hz1, hz2⟩ := info_parts byteinfo
  have HI := Lib.hid hiu
  have HZ0 := Lib.hid hz0
  have HZ1 := Lib.hid hz1
  have HZ2 := Lib.hid hz2
  clear hiu hz0 hz1 hz2
  go_enter Try.func16, Try.ntmps16
  go_wp2_with fail
  generalize hw1 : World.alloc w _ = w1
  have hx1 : w.Extends w1 := by subst hw1; exact ext_alloc _ _
  have ha : R10 w1 w.heap.size [.int .i64 0, .int .i64 0, .int .i64 0, .int .i64 0, .int .i64 0, .int .i64 0, .int .i64 0, .bool false, .int .i64 0, .slice none 0 0] := by subst hw1; exact heap_alloc_new _ _
  obtain ⟨B, hB⟩ : ∃ B, B = w.heap.size := ⟨_, rfl⟩
  obtain ⟨b2, hb2⟩ : ∃ b, b = w.heap.size := ⟨_, rfl⟩
  rw [← hb2] at ha ⊢
  have hsz := ha.lt
  have HE : Hid (∀ w', Below B w w' → w.Extends w') := fun w' h => ext_below h hB
  have HBW : Hid (w.heap.size ≤ B) := by rw [hB]; exact Nat.le_refl _
  have HB1 : Hid (Below B w w1) := by rw [hB]; exact Gr.below_of hx1
  have HX1 := Lib.hid hx1
  have HBB : Hid (B ≤ b2) := by show _ ≤ _; omega
  clear hw1 hx1 hB hb2
  refine (HOF.out w1 HX1.out).mono ?_
  rintro e' w2 ⟨t, rfl, hc, hx2, ht⟩
  have HNE : Hid (b2 ≠ t ∧ B ≤ t ∧ B ≤ b2) := by have := HBB.out; show _ ∧ _; omega
  have HB2 := Lib.hid (below_ext HB1.out hx2 (by have := HBB.out; omega))
  have HA2 := Lib.hid (ha.ext hx2)
  have HSZ2 : Hid (B ≤ w2.heap.size) := by have := HBB.out; have := hx2.size; show _ ≤ _; omega
  have HC2 := Lib.hid hc
  clear hc hx2 ht ha HB1 HX1 hsz HOF
  go_wp2_with fail
  refine (HTK2.out t w2 HC2.out).mono ?_
  rintro e' w3 ⟨a, c, rfl, hu, hg⟩
  have HU3 := Lib.hid hu
  have HB3 := Lib.hid (HB2.out.grown hg HSZ2.out (fun j hj => by simp at hj; have := HNE.out; omega))
  have HA3 := Lib.hid (HA2.out.kept hg HNE.out.1)
  have HSZ3 : Hid (B ≤ w3.heap.size) := Nat.le_trans HSZ2.out hg.size
  clear hu hg HB2 HA2 HC2 HSZ2 HTK2
  go_upto_region 2 with fail
  generalize hw4 : World.alloc w3 _ = w4
  have hx4 : w3.Extends w4 := by subst hw4; exact ext_alloc _ _
  have hr : R10 w4 w3.heap.size [.int .i64 p, .int .i64 n, .int .i64 b, .int .i64 s, .int .i64 m, .int .i64 k, .int .i64 e, .bool g, .int .i64 u, .slice a dl c] := by subst hw4; exact heap_alloc_new _ _
  have hlt := HA3.out.lt
  obtain ⟨b4, hb4⟩ : ∃ b, b = w3.heap.size := ⟨_, rfl⟩
  rw [← hb4] at hr ⊢
  have HN4 : Hid (b2 ≠ b4 ∧ B ≤ b4) := by have := HNE.out; show _ ∧ _; omega
  have HA4 := Lib.hid (HA3.out.ext hx4)
  have HU4 := Lib.hid (HU3.out.ext hx4)
  have HB4 := Lib.hid (below_ext HB3.out hx4 HSZ3.out)
  have HSZ4 : Hid (B ≤ w4.heap.size) := Nat.le_trans HSZ3.out hx4.size
  have HR4 := Lib.hid hr
  clear hw4 hx4 hr hlt hb4 HA3 HU3 HB3 HSZ3
  clear HR4 HU4
  have t0 := HA4.out.cell 0 _ rfl
  have t1 := HA4.out.cell 1 _ rfl
  have t2 := HA4.out.cell 2 _ rfl
  have t3 := HA4.out.cell 3 _ rfl
  have t4 := HA4.out.cell 4 _ rfl
  have t5 := HA4.out.cell 5 _ rfl
  have t6 := HA4.out.cell 6 _ rfl
  have t7 := HA4.out.cell 7 _ rfl
  have t8 := HA4.out.cell 8 _ rfl
  have t9 := HA4.out.cell 9 _ rfl
  have f0 := HA4.out.frozen 0
  have f1 := HA4.out.frozen 1
  have f2 := HA4.out.frozen 2
  have f3 := HA4.out.frozen 3
  have f4 := HA4.out.frozen 4
  have f5 := HA4.out.frozen 5
  have f6 := HA4.out.frozen 6
  have f7 := HA4.out.frozen 7
  have f8 := HA4.out.frozen 8
  have f9 := HA4.out.frozen 9
  have hbl := HA4.out.lt
  go_wp2
  clear t0 t1 t2 t3 t4 t5 t6 t7 t8 t9 f0 f1 f2 f3 f4 f5 f6 f7 f8 f9 hbl
  obtain ⟨wf, hw⟩ : ∃ w', w' = (((((((((w4.setCell ⟨b2, 0, none⟩ (.int .i64 0)).setCell ⟨b2, 1, none⟩ (.int .i64 0)).setCell ⟨b2, 2, none⟩ (.int .i64 0)).setCell ⟨b2, 3, none⟩ (.int .i64 0)).setCell ⟨b2, 4, none⟩ (.int .i64 0)).setCell ⟨b2, 5, none⟩ (.int .i64 0)).setCell ⟨b2, 6, none⟩ (.int .i64 0)).setCell ⟨b2, 7, none⟩ (.bool false)).setCell ⟨b2, 8, none⟩ (.int .i64 0)).setCell ⟨b2, 9, none⟩ (.slice none 0 0) := ⟨_, rfl⟩
  rw [← hw]
  have hg : w4.grownBy wf (some b2) := by subst hw; exact (((((((((grown_set w4 b2 0 (.int .i64 0)).trans (grown_set _ b2 1 (.int .i64 0))).trans (grown_set _ b2 2 (.int .i64 0))).trans (grown_set _ b2 3 (.int .i64 0))).trans (grown_set _ b2 4 (.int .i64 0))).trans (grown_set _ b2 5 (.int .i64 0))).trans (grown_set _ b2 6 (.int .i64 0))).trans (grown_set _ b2 7 (.bool false))).trans (grown_set _ b2 8 (.int .i64 0))).trans (grown_set _ b2 9 (.slice none 0 0))
  have HAF : R10 wf b2 [.int .i64 0, .int .i64 0, .int .i64 0, .int .i64 0, .int .i64 0, .int .i64 0, .int .i64 0, .bool false, .int .i64 0, .slice none 0 0] := by subst hw; exact ((((((((((HA4.out.set 0 (.int .i64 0)).set 1 (.int .i64 0)).set 2 (.int .i64 0)).set 3 (.int .i64 0)).set 4 (.int .i64 0)).set 5 (.int .i64 0)).set 6 (.int .i64 0)).set 7 (.bool false)).set 8 (.int .i64 0)).set 9 (.slice none 0 0))
  have HP : Hid (ROutN Rc.zero 2 w (.returned (.tuple #[.agg #[.int .i64 0, .int .i64 0, .int .i64 0, .int .i64 0, .int .i64 0, .int .i64 0, .int .i64 0, .bool false, .int .i64 0, .slice none 0 0], .int .i64 2])) wf) := ⟨none, 0, rfl, nil_u8s _ _ _, HE.out _ (HB4.out.grown hg HSZ4.out (fun j hj => by simp at hj; have := HNE.out; omega)), fun g hg => by cases hg⟩
  clear hw hg
  have t0 := HAF.cell 0 _ rfl
  have t1 := HAF.cell 1 _ rfl
  have t2 := HAF.cell 2 _ rfl
  have t3 := HAF.cell 3 _ rfl
  have t4 := HAF.cell 4 _ rfl
  have t5 := HAF.cell 5 _ rfl
  have t6 := HAF.cell 6 _ rfl
  have t7 := HAF.cell 7 _ rfl
  have t8 := HAF.cell 8 _ rfl
  have t9 := HAF.cell 9 _ rfl
  have hbl := HAF.lt
  clear HAF
  refine bodyPost_ret (by simp [results, Try.results16, go_sem, t0, t1, t2, t3, t4, t5, t6, t7, t8, t9]; try rfl) rfl ?_
  exact HP.out
end Go.Proofs.Ytdbdnfjgmdkneaa
