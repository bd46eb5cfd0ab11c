/- In one text: DecTells, DecBack, DecBackMain, Append2, AppendG. -/
import Derived.Test.YtpeegcncpcpbfaaDoorM1
import Derived.Test.YtpeegcncpcpbfaaDoorM5
import Derived.Test.YtpeegcncpcpbfaaDoorM18
/- DecodeTells. -/
namespace Go.Proofs.YtpeegcncpcpbfaaDoor
set_option maxRecDepth 20000
open Go.RowKit Go.Deep
set_option linter.unusedVariables false
theorem dtells_far (k size : Int) (a a' : Option Addr) (n cap nd cap' : Nat) (w : World) (hT : Tab w) (hn : n ≤ maxLen) (hnd : nd ≤ maxLen) (h : (14 < k ∧ k ≤ 40) ∨ 30 < n ∨ nd < n) :
    Calls Tryd.prog 3 #[.int .i64 k, .int .i64 size, .slice a n cap, .slice a' nd cap'] w fun e w' => e = .returned (.bool true) ∧ w.Extends w' := by
  have HA := Lib.hid (alive11_any w hT)
  clear hT
  unfold maxLen at hn hnd
  by_cases h1 : 14 < k ∧ k ≤ 40
  · obtain ⟨h2, h3⟩ := h1
    clear h
    go_enter Tryd.func3, Tryd.ntmps3
    go_wp2_with fail
    refine HA.out.mono ?_
    rintro e w1 ⟨rfl, hx1⟩
    go_wp2
    go_ret
    exact ⟨rfl, hx1⟩
  · have h' : 30 < n ∨ (n ≤ 30 ∧ nd < n) := by omega
    have hk : k ≤ 14 ∨ (14 < k ∧ 40 < k) := by omega
    clear h h1
    rcases hk with hk | ⟨hk0, hk⟩
    all_goals
      rcases h' with h | ⟨h0, h⟩
      all_goals
        go_enter Tryd.func3, Tryd.ntmps3
        go_wp2_with fail
        refine HA.out.mono ?_
        rintro e w1 ⟨rfl, hx1⟩
        go_wp2
        go_ret
        exact ⟨rfl, hx1⟩
theorem dtells_many (k size : Int) (a : Option Addr) (n cap : Nat) (vd : Value) (ds : List (List Nat)) (w : World) (hT : Tab w) (hd : Rws w vd ds) (hml : ∀ k, (ds.getD k []).length ≤ 140737488351232) (hk : k ≤ 14 ∨ (14 < k ∧ 40 < k)) (h0 : n ≤ 30) (h1 : n ≤ ds.length) (hf : few ds = false) :
    Calls Tryd.prog 3 #[.int .i64 k, .int .i64 size, .slice a n cap, vd] w fun e w' => e = .returned (.bool true) ∧ w.Extends w' := by
  have HA := Lib.hid (alive11_any w hT)
  have HF : Hid (∀ w, Rws w vd ds → Calls Tryd.prog 8 #[vd] w fun e w' => e = .returned (.bool false) ∧ w.Extends w') := fun w hv => by
    have := few_any vd ds w hv hml
    rw [hf] at this
    exact this.mono fun _ _ h => ⟨h.1, Gr.ext_of h.2⟩
  have HD := Lib.hid hd
  have hlen := hd.len
  obtain ⟨a', cap', rfl, _⟩ := hd.slice
  clear hT hd hf hml
  generalize ds.length = nd at *
  unfold maxLen at hlen
  rcases hk with hk | ⟨hk0, hk⟩
  all_goals
    go_enter Tryd.func3, Tryd.ntmps3
    go_wp2_with fail
    refine HA.out.mono ?_
    rintro e w1 ⟨rfl, hx1⟩
    have HX1 := Lib.hid hx1
    clear hx1 HA
    go_wp2_with fail
    refine (HF.out w1 (HD.out.ext HX1.out)).mono ?_
    rintro e w2 ⟨rfl, hx2⟩
    have HX2 := Lib.hid (Gr.ext_trans HX1.out hx2)
    clear hx2
    go_wp2
    go_ret
    exact ⟨rfl, HX2.out⟩
set_option maxHeartbeats 1000000 in
theorem dtells_main (k size : Int) (ve vd : Value) (es : List Int) (ds : List (List Nat)) (w : World) (hT : Tab w) (hv : Ints w ve es) (hd : Rws w vd ds) (hml : ∀ k, (ds.getD k []).length ≤ 140737488351232) (hk : k ≤ 14 ∨ (14 < k ∧ 40 < k)) (h0 : es.length ≤ 30) (h1 : es.length ≤ ds.length) (hf : few ds = true) :
    Calls Tryd.prog 3 #[.int .i64 k, .int .i64 size, ve, vd] w fun e w' => e = .returned (.bool true) ∧ w.Extends w' := by
  have HA := Lib.hid (alive11_any w hT)
  have HF : Hid (∀ w, Rws w vd ds → Calls Tryd.prog 8 #[vd] w fun e w' => e = .returned (.bool true) ∧ w.Extends w') := fun w hv => by
    have := few_any vd ds w hv hml
    rw [hf] at this
    exact this.mono fun _ _ h => ⟨h.1, Gr.ext_of h.2⟩
  have hfy := (few_yes ds hf).2
  obtain ⟨X, err, hX, HB, HR⟩ := asked11 k size es ds (by omega) h1
  obtain ⟨b, HE, HRE⟩ := asked_e k es (by omega)
  have HB := Lib.hid HB
  have HR := Lib.hid HR
  have HE := Lib.hid HE
  have HRE := Lib.hid HRE
  have HLD := Lib.hid (fun w hv hd => ldrops_any ve vd es ds w (by omega) h1 (fun i => by have := hfy i; omega) hv hd)
  have HT := Lib.hid hT
  have HV := Lib.hid hv
  have HD := Lib.hid hd
  have hlen := hd.len
  obtain ⟨a, cap, rfl, _⟩ := hv.slice
  obtain ⟨a', cap', rfl, _⟩ := hd.slice
  clear hT hv hd hf hml hfy
  generalize ds.length = nd at *
  generalize es.length = n at *
  unfold maxLen at hlen
  rcases hk with hk | ⟨hk0, hk⟩
  all_goals
    go_enter Tryd.func3, Tryd.ntmps3
    go_wp2_with fail
    refine HA.out.mono ?_
    rintro e w1 ⟨rfl, hx1⟩
    have HX1 := Lib.hid hx1
    clear hx1 HA
    go_wp2_with fail
    refine (HF.out w1 (HD.out.ext HX1.out)).mono ?_
    rintro e w2 ⟨rfl, hx2⟩
    have HX2 := Lib.hid (Gr.ext_trans HX1.out hx2)
    clear hx2 HX1 HF
    go_wp2_with fail
    refine (HLD.out w2 (HV.out.ext HX2.out) (HD.out.ext HX2.out)).mono ?_
    rintro e w3 ⟨vl, rfl, hx3, hvl⟩
    have HX3 := Lib.hid (Gr.ext_trans HX2.out hx3)
    have HVL := Lib.hid hvl
    clear hx3 hvl HX2 HLD
    go_wp2_with fail
    refine (HB.out vl w3 HVL.out (HT.out.ext HX3.out)).mono ?_
    rintro e w4 ⟨vx, rfl, hx4, hvx⟩
    have HX4 := Lib.hid (Gr.ext_trans HX3.out hx4)
    have HVX := Lib.hid hvx
    clear hx4 hvx HX3 HVL HB
    go_wp2_with fail
    refine (HR.out _ _ w4 (HV.out.ext HX4.out) (HD.out.ext HX4.out)).mono ?_
    rintro e w5 ⟨vy, rfl, hx5, hvy⟩
    have HX5 := Lib.hid (Gr.ext_trans HX4.out hx5)
    have HVX5 := Lib.hid (HVX.out.ext hx5)
    have HVY := Lib.hid hvy
    clear hx5 hvy HX4 HVX HR
    go_wp2_with fail
    refine (from_any vx X w5 HVX5.out hX).mono ?_
    rintro e w6 ⟨vf, rfl, hx6, hvf⟩
    have HX6 := Lib.hid (Gr.ext_trans HX5.out hx6)
    have HVY6 := Lib.hid (HVY.out.ext hx6)
    have HVF := Lib.hid hvf
    clear hx6 hvf HX5 HVX5 HVY
    go_wp2_with fail
    refine (same_any vf vy X w6 HVF.out HVY6.out).mono ?_
    rintro e w7 ⟨rfl, hb7⟩
    have HX7 := Lib.hid (Gr.ext_trans HX6.out (Gr.ext_of hb7))
    clear hb7 HX6 HVY6 HVF
    go_wp2_with fail
    refine (num11_any _ w7).mono ?_
    rintro e w' ⟨rfl, rfl⟩
    go_wp2_with fail
    refine (HE.out _ w7 (HV.out.ext HX7.out) (HT.out.ext HX7.out)).mono ?_
    rintro e w8 ⟨rfl, hx8⟩
    have HX8 := Lib.hid (Gr.ext_trans HX7.out hx8)
    clear hx8 HX7 HE
    go_wp2_with fail
    refine (HRE.out _ w8 (HV.out.ext HX8.out)).mono ?_
    rintro e w9 ⟨rfl, hx9⟩
    have HX9 := Lib.hid (Gr.ext_trans HX8.out hx9)
    clear hx9 HX8 HRE
    go_wp2
    go_ret
    exact ⟨by simp, HX9.out⟩
theorem DecodeTells_walk (k size : Int) (ve : Value) (es : List Int) (vd : Value) (ds : List (List Nat)) (w : World) (_ : -9223372036854775808 ≤ k ∧ k ≤ 9223372036854775807) (_ : -9223372036854775808 ≤ size ∧ size ≤ 9223372036854775807)
    (hv : Ints w ve es ∧ ∀ x ∈ es, -9223372036854775808 ≤ x ∧ x ≤ 9223372036854775807) (hd : Rws w vd ds ∧ ∀ k, (ds.getD k []).length ≤ 140737488351232) (hT : Tab w) :
    Calls Tryd.prog 3 #[.int .i64 k, .int .i64 size, ve, vd] w fun e w' => e = .returned (.bool true) ∧ Below w.heap.size w w' := by
  suffices H : Calls Tryd.prog 3 #[.int .i64 k, .int .i64 size, ve, vd] w fun e w' => e = .returned (.bool true) ∧ w.Extends w' from H.mono fun e w' h => ⟨h.1, Gr.below_of h.2⟩
  by_cases h : (14 < k ∧ k ≤ 40) ∨ 30 < es.length ∨ ds.length < es.length
  · have h1 := hv.1.len
    have h2 := hd.1.len
    obtain ⟨a, cap, rfl, _⟩ := hv.1.slice
    obtain ⟨a', cap', rfl, _⟩ := hd.1.slice
    exact dtells_far k size a a' _ cap _ cap' w hT h1 h2 h
  · cases hf : few ds with
    | false =>
      obtain ⟨a, cap, rfl, _⟩ := hv.1.slice
      exact dtells_many k size a _ cap vd ds w hT hd.1 hd.2 (by omega) (by omega) (by omega) hf
    | true => exact dtells_main k size ve vd es ds w hT hv.1 hd.1 hd.2 (by omega) (by omega) (by omega) hf
end Go.Proofs.YtpeegcncpcpbfaaDoor
/- DecodeBack. -/
namespace Go.Proofs.YtpeegcncpcpbfaaDoor
set_option maxRecDepth 20000
open Go.RowKit Go.Deep
set_option linter.unusedVariables false
theorem and24 (n : Int) : bits .and .i64 n 16777215 = n % 16777216 := by
  have h24 : (BitVec.ofInt 64 16777215).toNat = 2 ^ 24 - 1 := by decide
  have key : (BitVec.ofInt 64 n &&& BitVec.ofInt 64 16777215).toNat = (n % ((2 ^ 64 : Nat) : Int)).toNat % 2 ^ 24 := by
    rw [BitVec.toNat_and, BitVec.toNat_ofInt, h24, Nat.and_two_pow_sub_one_eq_mod]
  show IntKind.i64.wrap ((BitVec.ofInt 64 n &&& BitVec.ofInt 64 16777215).toNat : Nat) = n % 16777216
  rw [key, IntKind.wrap_i64]
  omega
theorem and4 (n : Int) : bits .and .i64 n 15 = n % 16 := by
  have h4 : (BitVec.ofInt 64 15).toNat = 2 ^ 4 - 1 := by decide
  have key : (BitVec.ofInt 64 n &&& BitVec.ofInt 64 15).toNat = (n % ((2 ^ 64 : Nat) : Int)).toNat % 2 ^ 4 := by
    rw [BitVec.toNat_and, BitVec.toNat_ofInt, h4, Nat.and_two_pow_sub_one_eq_mod]
  show IntKind.i64.wrap ((BitVec.ofInt 64 n &&& BitVec.ofInt 64 15).toNat : Nat) = n % 16
  rw [key, IntKind.wrap_i64]
  omega
theorem dback_far (a : Option Addr) (n cap : Nat) (ve : Value) (w : World) (hT : Tab w) (hm : n ≤ maxLen) (h : n < 1 ∨ 10 < n) :
    Calls Tryd.prog 4 #[.slice a n cap, ve] w fun e w' => e = .returned (.bool true) ∧ w.Extends w' := by
  have HA := Lib.hid (alive11_any w hT)
  clear hT
  unfold maxLen at hm
  rcases h with h | h
  all_goals
    go_enter Tryd.func4, Tryd.ntmps4
    go_wp2_with fail
    refine HA.out.mono ?_
    rintro e w1 ⟨rfl, hx1⟩
    go_wp2
    go_ret
    exact ⟨rfl, hx1⟩
theorem dback_many (vs ve : Value) (src : List (List Nat)) (w : World) (hT : Tab w) (hs : Rws w vs src) (hml : ∀ k, (src.getD k []).length ≤ 140737488351232) (h1 : 1 ≤ src.length) (h2 : src.length ≤ 10) (hf : few src = false) :
    Calls Tryd.prog 4 #[vs, ve] w fun e w' => e = .returned (.bool true) ∧ w.Extends w' := by
  have HA := Lib.hid (alive11_any w hT)
  have HF : Hid (∀ w, Rws w vs src → Calls Tryd.prog 8 #[vs] w fun e w' => e = .returned (.bool false) ∧ w.Extends w') := fun w hv => by
    have := few_any vs src w hv hml
    rw [hf] at this
    exact this.mono fun _ _ h => ⟨h.1, Gr.ext_of h.2⟩
  have HS := Lib.hid hs
  obtain ⟨a, cap, rfl, _⟩ := hs.slice
  clear hT hs hf hml
  generalize src.length = n at *
  go_enter Tryd.func4, Tryd.ntmps4
  go_wp2_with fail
  refine HA.out.mono ?_
  rintro e w1 ⟨rfl, hx1⟩
  have HX1 := Lib.hid hx1
  clear hx1 HA
  go_wp2_with fail
  refine (HF.out w1 (HS.out.ext HX1.out)).mono ?_
  rintro e w2 ⟨rfl, hx2⟩
  have HX2 := Lib.hid (Gr.ext_trans HX1.out hx2)
  clear hx2
  go_wp2
  go_ret
  exact ⟨rfl, HX2.out⟩
set_option maxHeartbeats 1000000 in
theorem dback_size (vs : Value) (ae : Option Addr) (m cape : Nat) (src : List (List Nat)) (w : World) (hT : Tab w) (hs : Rws w vs src) (hml : ∀ k, (src.getD k []).length ≤ 140737488351232) (h1 : 1 ≤ src.length) (h2 : src.length ≤ 10) (hf : few src = true) (hm : m ≤ maxLen)
    (h : (src.getD 0 []).length < 1 ∨ 64 < (src.getD 0 []).length ∨ 30 < m) :
    Calls Tryd.prog 4 #[vs, .slice ae m cape] w fun e w' => e = .returned (.bool true) ∧ w.Extends w' := by
  have HA := Lib.hid (alive11_any w hT)
  have HF : Hid (∀ w, Rws w vs src → Calls Tryd.prog 8 #[vs] w fun e w' => e = .returned (.bool true) ∧ w.Extends w') := fun w hv => by
    have := few_any vs src w hv hml
    rw [hf] at this
    exact this.mono fun _ _ h => ⟨h.1, Gr.ext_of h.2⟩
  have hr0 := hml 0
  have HS := Lib.hid hs
  obtain ⟨a, cap, rfl, _⟩ := hs.slice
  obtain ⟨b1, o1, rfl, hb1, hc1⟩ := hs.at.2 (by omega)
  obtain ⟨ra, rc, hc, _⟩ := hc1 0 (by omega)
  rw [Nat.add_zero] at hc
  clear hT hs hf hml hc1
  generalize src.length = n at *
  unfold maxLen at hm
  have HC := Lib.hid hc
  clear hc
  generalize (src.getD 0 []).length = r at *
  have h' : r < 1 ∨ (1 ≤ r ∧ 64 < r) ∨ (1 ≤ r ∧ r ≤ 64 ∧ 30 < m) := by omega
  clear h
  rcases h' with h | ⟨h, h'⟩ | ⟨h, h', h''⟩
  all_goals
    go_enter Tryd.func4, Tryd.ntmps4
    go_wp2_with fail
    refine HA.out.mono ?_
    rintro e w1 ⟨rfl, hx1⟩
    have HX1 := Lib.hid hx1
    clear hx1 HA
    go_wp2_with fail
    refine (HF.out w1 (HS.out.ext HX1.out)).mono ?_
    rintro e w2 ⟨rfl, hx2⟩
    have HX2 := Lib.hid (Gr.ext_trans HX1.out hx2)
    have hc := HX2.out.cell_of HC.out
    clear hx2
    go_wp2
    go_ret
    exact ⟨rfl, HX2.out⟩
theorem dback_none (vs : Value) (ae : Option Addr) (m cape : Nat) (src : List (List Nat)) (w : World) (hT : Tab w) (hs : Rws w vs src) (hml : ∀ k, (src.getD k []).length ≤ 140737488351232) (h1 : 1 ≤ src.length) (h2 : src.length ≤ 10) (hf : few src = true)
    (h3 : 1 ≤ (src.getD 0 []).length) (h4 : (src.getD 0 []).length ≤ 64) (h5 : m ≤ 30) (err : Int) (hne : err ≠ 0) (hn : ∀ w, Rws w vs src → Calls Tryd.prog 17 #[.int .i64 (src.getD 0 []).length, vs] w (NoBlock w err)) :
    Calls Tryd.prog 4 #[vs, .slice ae m cape] w fun e w' => e = .returned (.bool true) ∧ w.Extends w' := by
  have HA := Lib.hid (alive11_any w hT)
  have HF : Hid (∀ w, Rws w vs src → Calls Tryd.prog 8 #[vs] w fun e w' => e = .returned (.bool true) ∧ w.Extends w') := fun w hv => by
    have := few_any vs src w hv hml
    rw [hf] at this
    exact this.mono fun _ _ h => ⟨h.1, Gr.ext_of h.2⟩
  have HS := Lib.hid hs
  have HN := Lib.hid hn
  have hne' : (err != 0) = true := by simpa using hne
  obtain ⟨a, cap, rfl, _⟩ := hs.slice
  obtain ⟨b1, o1, rfl, hb1, hc1⟩ := hs.at.2 (by omega)
  obtain ⟨ra, rc, hc, _⟩ := hc1 0 (by omega)
  rw [Nat.add_zero] at hc
  clear hT hs hf hml hc1 hn hne
  generalize src.length = n at *
  have HC := Lib.hid hc
  clear hc
  generalize (src.getD 0 []).length = r at *
  go_enter Tryd.func4, Tryd.ntmps4
  go_wp2_with fail
  refine HA.out.mono ?_
  rintro e w1 ⟨rfl, hx1⟩
  have HX1 := Lib.hid hx1
  clear hx1 HA
  go_wp2_with fail
  refine (HF.out w1 (HS.out.ext HX1.out)).mono ?_
  rintro e w2 ⟨rfl, hx2⟩
  have HX2 := Lib.hid (Gr.ext_trans HX1.out hx2)
  have hc := HX2.out.cell_of HC.out
  clear hx2 HX1
  go_wp2_with fail
  refine (HN.out w2 (HS.out.ext HX2.out)).mono ?_
  rintro e w3 ⟨rfl, hx3⟩
  have HX3 := Lib.hid (Gr.ext_trans HX2.out hx3)
  clear hx3 hc
  go_wp2
  go_ret
  exact ⟨rfl, HX3.out⟩
/-- The symbol of any number. -/
def DC.dr (k j size : Nat) (c : List (List Nat)) (e : Int) : List Nat := DM.drop k j size c e.toNat
theorem DC.dr_nat (k j size : Nat) (c : List (List Nat)) (e : Int) : DC.dr k j size c e = DM.drop k j size c e.toNat := rfl
theorem map_at (f : Int → List Nat) (L : List Int) (i : Nat) (hi : i < L.length) : (L.map f).getD i [] = f (L.getD i 0) := by
  rw [List.getD_eq_getElem?_getD, List.getElem?_map, List.getElem?_eq_getElem hi, List.getD_eq_getElem?_getD, List.getElem?_eq_getElem hi]
  rfl
theorem back_pairs (f : Int → List Nat) (L : List Int) : ∀ p ∈ DC.pairs L (L.map f), p.2 = f p.1 := DC.pairs_mem fun i hi => map_at f L i hi
/-- What Block and Enough answer of a block's symbols. -/
theorem back_told {k j size : Nat} {src c : List (List Nat)} (L : List Int) (hseed : SM.SeedIs k j 0) (hc : BM.PartsIs k j size src c) (hk : src.length = k) (hr : ∀ i, i < k → (src.getD i []).length = size) :
    (DC.Full k j L ∧ DC.Told k size (DC.pairs L (L.map (DC.dr k j size c))) src 0) ∨ (¬ DC.Full k j L ∧ DC.Told k size (DC.pairs L (L.map (DC.dr k j size c))) [] 4) := by
  have hp := back_pairs (DC.dr k j size c) L
  have he : DC.esis (DC.pairs L (L.map (DC.dr k j size c))) = L := DC.esis_pairs _ _
  generalize DC.pairs L (L.map (DC.dr k j size c)) = P at *
  have hp' : ∀ p ∈ P, p.2 = DM.drop k j size c p.1.toNat := fun p h => (hp p h).trans (DC.dr_nat _ _ _ _ _)
  have hlen : ∀ p ∈ P, (p.2.length : Int) = size := fun p h => by rw [hp' p h, DM.drop_length]
  have hs : DC.Full k j (DC.esis (DC.first P)) ↔ DC.Full k j L := by
    refine DC.full_same fun e => ?_
    rw [DC.first_esis, he]
  by_cases hf : DC.Full k j L
  · exact .inl ⟨hf, .inr ⟨hlen, .inr ⟨j, some c, hseed, DC.back_some hc (DC.first_all hp') (hs.2 hf), (DC.out_src hc hk hr).symm, rfl⟩⟩⟩
  · exact .inr ⟨hf, .inr ⟨hlen, .inr ⟨j, none, hseed, DC.back_none (fun h => hf (hs.1 h)), rfl, rfl⟩⟩⟩
end Go.Proofs.YtpeegcncpcpbfaaDoor
/- DecodeBack within its limits. -/
namespace Go.Proofs.YtpeegcncpcpbfaaDoor
set_option maxRecDepth 20000
open Go.RowKit Go.Deep
set_option linter.unusedVariables false
theorem ok_snoc {L : List Int} {e : Int} (h : ∀ x ∈ L, EsiOk x) (he : EsiOk e) : ∀ x ∈ L ++ [e], EsiOk x := fun x hx => by
  rcases List.mem_append.1 hx with h' | h'
  · exact h x h'
  · rw [List.mem_singleton.1 h']; exact he
set_option maxHeartbeats 2000000 in
set_option maxRecDepth 100000 in
theorem dback_main (vs ve : Value) (src : List (List Nat)) (es : List Int) (k j size : Nat) (c : List (List Nat)) (w : World) (hT : Tab w) (hs : Rws w vs src) (hv : Ints w ve es) (hml : ∀ k, (src.getD k []).length ≤ 140737488351232) (hk : src.length = k) (h1 : 1 ≤ k) (h2 : k ≤ 10) (hf : few src = true)
    (hr0 : (src.getD 0 []).length = size) (h3 : 1 ≤ size) (h4 : size ≤ 64) (h5 : es.length ≤ 30) (hall : AllB size src) (hseed : SM.SeedIs k j 0) (hc : BM.PartsIs k j size src c) :
    Calls Tryd.prog 4 #[vs, ve] w fun e w' => e = .returned (.bool true) ∧ w.Extends w' := by
  have hj : j ≤ 255 := by have := hseed.lt; omega
  have HA := Lib.hid (alive11_any w hT)
  have HF : Hid (∀ w, Rws w vs src → Calls Tryd.prog 8 #[vs] w fun e w' => e = .returned (.bool true) ∧ w.Extends w') := fun w hv => by
    have := few_any vs src w hv hml
    rw [hf] at this
    exact this.mono fun _ _ h => ⟨h.1, Gr.ext_of h.2⟩
  have HN : Hid (∀ w, Rws w vs src → Calls Tryd.prog 17 #[.int .i64 size, vs] w fun e w' => ∃ b v, e = .returned (.tuple #[.pointer (some ⟨b, 0, none⟩), .int .i64 0]) ∧ w.Extends w' ∧ RAt w' b k j size v ∧ Rws w' v c) := fun w hv =>
    refNew_some size vs src k w h3 h4 hk h1 (by omega) hv hall j hseed c hc
  have HSY : Hid (∀ b v (e : Int) w, RAt w b k j size v → Rws w v c → EsiOk e → Calls Tryd.prog 18 #[.pointer (some ⟨b, 0, none⟩), .int .i64 e] w (SymOut w (DC.dr k j size c e) 0)) := fun b v e w hb hv he => by
    have := refSymbol_any b k j size e v c w h1 (by omega) hj h3 h4 hc.1 hb hv
    unfold symOf symErr at this
    rw [if_pos he, if_pos he] at this
    exact this
  have HTOLD := Lib.hid (fun L => back_told L hseed hc hk fun i hi => by have := hall i (by omega); omega)
  have HBL : Hid (∀ (L : List Int) X err v w, L.length ≤ 30 → (∀ e ∈ L, EsiOk e) → DC.Told k size (DC.pairs L (L.map (DC.dr k j size c))) X err → Drps w v (DC.pairs L (L.map (DC.dr k j size c))) → Tab w → Calls Tryd.prog 9 #[.int .i64 k, .int .i64 size, v] w (DAns w X err)) := fun L X err v w hl hL ht hv hT =>
    block_told k size v _ w h1 (by omega) h3 h4 hv (by rw [DC.pairs_length]; omega) (DC.pairs_mem fun i hi => hL _ (by rw [List.getD_eq_getElem?_getD, List.getElem?_eq_getElem hi]; exact List.getElem_mem hi)) hT X err ht
  have HEN : Hid (∀ (L : List Int) v w, L.length ≤ 30 → (∀ e ∈ L, EsiOk e) → Ints w v L → Tab w → Calls Tryd.prog 15 #[.int .i64 k, v] w (Says (DC.Full k j L) w)) := fun L v w hl hL hv hT =>
    enough_yes k j v L w h1 (by omega) (by omega) hv hT hseed fun i hi => hL _ (by rw [List.getD_eq_getElem?_getD, List.getElem?_eq_getElem hi]; exact List.getElem_mem hi)
  have HLD : Hid (∀ (L : List Int) vl vd w, L.length ≤ 30 → Ints w vl L → Rws w vd (L.map (DC.dr k j size c)) → Calls Tryd.prog 10 #[vl, vd] w (DNew w (DC.pairs L (L.map (DC.dr k j size c))))) := fun L vl vd w hl hv hd =>
    ldrops_any vl vd L _ w (by omega) (by rw [List.length_map]; exact Nat.le_refl _) (fun i => by
      by_cases hi : i < L.length
      · rw [map_at _ L i hi, DC.dr_nat, DM.drop_length]; omega
      · rw [List.getD_eq_getElem?_getD, List.getElem?_eq_none (by rw [List.length_map]; omega)]; simp) hv hd
  have HMS : Hid (∀ (L : List Int) e, L.map (DC.dr k j size c) ++ [DC.dr k j size c e] = (L ++ [e]).map (DC.dr k j size c)) := fun L e => by simp
  have HSL : Hid (src.length = k) := hk
  have HT := Lib.hid hT
  have HS := Lib.hid hs
  have HV := Lib.hid hv
  obtain ⟨a, cap, rfl, _⟩ := hs.slice
  obtain ⟨b1, o1, rfl, hb1, hc1⟩ := hs.at.2 (by omega)
  obtain ⟨ra, rc, hcc, _⟩ := hc1 0 (by omega)
  rw [Nat.add_zero, hr0] at hcc
  have HC := Lib.hid hcc
  obtain ⟨ae, cape, rfl, _⟩ := hv.slice
  have HVC := Lib.hid hv.cell.2
  rw [hk] at HS HF HN ⊢
  clear hT hs hv hf hml hc1 hcc hall hseed hc hr0 hk
  obtain ⟨n, hn⟩ : ∃ n, n = es.length := ⟨_, rfl⟩
  rw [← hn] at HVC h5 HV ⊢
  clear hn
  generalize DC.dr k j size c = d at *
  obtain ⟨i0, hi, hz0, hz1, hz2⟩ := info_parts intinfo
  have HI := Lib.hid hi; clear hi
  have HZ0 := Lib.hid hz0; clear hz0
  have HZ1 := Lib.hid hz1; clear hz1
  have HZ2 := Lib.hid hz2; clear hz2
  obtain ⟨i1, hi', hz0', hz1', hz2'⟩ := info_parts bytesinfo
  have HI' := Lib.hid hi'; clear hi'
  have HZ0' := Lib.hid hz0'; clear hz0'
  have HZ1' := Lib.hid hz1'; clear hz1'
  have HZ2' := Lib.hid hz2'; clear hz2'
  go_enter Tryd.func4, Tryd.ntmps4
  go_wp2_with fail
  refine HA.out.mono ?_
  rintro e w1 ⟨rfl, hx1⟩
  have HX1 := Lib.hid hx1
  clear hx1 HA
  go_wp2_with fail
  refine (HF.out w1 (HS.out.ext HX1.out)).mono ?_
  rintro e w2 ⟨rfl, hx2⟩
  have HX2 := Lib.hid (Gr.ext_trans HX1.out hx2)
  have hcc := HX2.out.cell_of HC.out
  clear hx2 HX1 HF
  go_wp2_with fail
  refine (HN.out w2 (HS.out.ext HX2.out)).mono ?_
  rintro e w3 ⟨b, vc, rfl, hx3, hat, hvc⟩
  have HX3 := Lib.hid (Gr.ext_trans HX2.out hx3)
  have HAT := Lib.hid hat
  have HVB := Lib.hid hvc
  clear hx3 hat hvc HX2 HN hcc
  go_wp2_with fail
  go_loopw [9, 10, 11] (fun o d' i wr => ∃ (q : Nat) (L : List Int), q ≤ n ∧ i = .int .i64 q ∧ Hid (L.length = q) ∧ Hid (∀ e ∈ L, EsiOk e) ∧ Hid (w3.Extends wr) ∧ Hid (wr.ownsRow w3.heap.size 3 1 o q (i64vs L)) ∧ Hid (Mats wr w3.heap.size 0 40 d' q (L.map d))) (fun _ _ i _ => (n - intOf i).toNat)
  case atStart => exact ⟨0, [], by omega, rfl, Lib.hid rfl, Lib.hid (fun e he => by cases he), Lib.hid (Gr.ext_refl _), Lib.hid (World.ownsRow_nil _ _ _ _), Lib.hid (Mats.nil _ _ _ _ _)⟩
  case round =>
    obtain ⟨q, L, hq, rfl, HLL, HLO, HX, HOWN, HMA⟩ := hrel
    by_cases h6 : q < n
    · obtain ⟨b2, o2, rfl, hb2, hc2⟩ := HVC.out (by omega)
      have hce := (Gr.ext_trans HX3.out HX.out).cell_of (hc2 q h6)
      have hbits := and24 (es.getD q 0)
      clear hc2
      generalize es.getD q 0 = x at *
      obtain ⟨y, hy⟩ : ∃ y, y = x % 16777216 := ⟨_, rfl⟩
      rw [← hy] at hbits
      have hyo : EsiOk y := ⟨by omega, by omega⟩
      have HYO := Lib.hid hyo
      have hbit4 := and4 y
      obtain ⟨z, hz⟩ : ∃ z, z = y % 16 := ⟨_, rfl⟩
      rw [← hz] at hbit4
      have HZO : Hid (EsiOk z) := ⟨by omega, by omega⟩
      have HOB : Hid (∀ g, u9.ownBlock = some g → w3.heap.size ≤ g) := fun g hg => (HOWN.out.lt g hg).1
      clear hy hz hyo
      go_wp2_with fail
      clear HYO
      have HYO := HZO
      clear HZO hbits hbit4
      obtain ⟨y, rfl⟩ : ∃ y', y' = z := ⟨z, rfl⟩
      all_goals
        refine (HSY.out b vc y wr (HAT.out.ext HX.out) (HVB.out.ext HX.out) HYO.out).mono ?_
        rintro e w4 ⟨u, rfl, hx4, hok⟩
        have HX4 := Lib.hid (Gr.ext_trans HX.out hx4)
        have HOW4 := Lib.hid (owns_ext HOWN.out hx4)
        have HMA4 := Lib.hid (HMA.out.ext hx4)
        have HOK4 := Lib.hid hok
        obtain ⟨ua, uc, rfl, _⟩ := hok.1.slice
        have HES : Hid (i64vs L ++ [.int .i64 y] = i64vs (L ++ [y])) := by show _ = _; rw [i64vs_snoc]
        have HMS1 := Lib.hid (HMS.out L y)
        have HLO1 := Lib.hid (ok_snoc HLO.out HYO.out)
        have HLM : Hid (q = (L.map d).length) := by show _ = _; rw [List.length_map, HLL.out]
        have HLL1 : Hid ((L ++ [y]).length = q + 1) := by show _ = _; rw [List.length_append, HLL.out]; rfl
        generalize L ++ [y] = L' at *
        generalize d y = row at HOK4 HMS1 ⊢
        generalize L.map d = dl at *
        have hbs4 := HX4.out.size
        clear hx4 hok HX HOWN HMA hce HLL HLO
        go_wp2_with (at_builtin; refine wpList_append_own_src _ rfl _ _ 22 22 rfl w3.heap.size 3 i0 (.int .i64 0) 1 8 Tryd.underlying22 HI.out HZ0.out HZ1.out HZ2.out rfl _ _ _ rfl (HOW4.out.alloc _) _ 1 [.int .i64 y] rfl (src_one Tryd.underlying22 _ _ rfl rfl) (by unfold maxLen; omega) (by omega) (by simp; omega) ?_)
        intro v' w5 ho5 hg5 _
        have HX5 : Hid (w3.Extends w5) := Gr.ext_of (((Gr.below_of HX4.out).alloc hbs4 _).grown hg5 (by simp; omega) HOB.out)
        have HOK5 := Lib.hid ((HOK4.out.ext (ext_alloc _ _)).by_row (HOW4.out.alloc _) (by decide) (Nat.zero_le _) hg5)
        have HMA5 := Lib.hid ((HMA4.out.ext (ext_alloc _ _)).by_row (HOW4.out.alloc _) (by decide) (by decide) (Nat.zero_le _) hg5)
        rw [HES.out] at ho5
        have HO5 := Lib.hid ho5
        obtain ⟨vs', hown, hrows⟩ := HMA5.out
        have HOWM := Lib.hid hown
        have HROWS := Lib.hid hrows
        have HOC : Hid (∀ g, u10.ownBlock = some g → w3.heap.size ≤ g) := fun g hg => (HOWM.out.lt g hg).1
        have hbs5 := HX5.out.size
        clear ho5 hg5 hown hrows HMA5 HMA4 HOW4 HOK4 HX4 HOB
        go_wp2_with (at_builtin; refine wpList_append_own_src _ rfl _ _ 23 23 rfl w3.heap.size 40 i1 (.slice none 0 0) 1 24 Tryd.underlying23 HI'.out HZ0'.out HZ1'.out HZ2'.out rfl _ _ _ rfl (HOWM.out.alloc _) _ 1 [.slice ua row.length uc] rfl (src_one Tryd.underlying23 _ _ rfl rfl) (by unfold maxLen; omega) (by omega) (by simp; omega) ?_)
        intro v'' w6 ho6 hg6 _
        have HP : Hid (w3.Extends w6 ∧ w6.ownsRow w3.heap.size 3 1 v' (q + 1) (i64vs L') ∧ Mats w6 w3.heap.size 0 40 v'' (q + 1) (L'.map d)) := by
          refine ⟨Gr.ext_of (((Gr.below_of HX5.out).alloc hbs5 _).grown hg6 (by simp; omega) HOC.out), (HO5.out.alloc _).kept hg6 (owns_apart HO5.out HOWM.out (by decide)), ?_⟩
          rw [← HMS1.out]
          exact Mats.snoc (Nat.zero_le _) (by decide) HLM.out (HOWM.out.alloc _) (fun j hj => by obtain ⟨u, h1, h2⟩ := HROWS.out j hj; exact ⟨u, h1, h2.ext (ext_alloc _ _)⟩) (HOK5.out.ext (ext_alloc _ _)) hg6 ho6
        clear ho6 hg6
        go_wp2
        go_roundw
        case rel => exact ⟨q + 1, L', by omega, by go_num, HLL1, HLO1, Lib.hid HP.out.1, Lib.hid HP.out.2.1, Lib.hid HP.out.2.2⟩
        case measure => simp [intOf]; omega
    · obtain rfl : q = n := by omega
      have hLq := HLL.out
      have HVL := Lib.hid (owns_ints HOWN.out)
      have HVD : Hid (Rws wr u10 (L.map d)) := HMA.out.rws (by rw [List.length_map, hLq])
      have HX4 := Lib.hid (Gr.ext_trans HX3.out HX.out)
      have HLD1 := Lib.hid (fun vl vd w hv hd => HLD.out L vl vd w (by omega) hv hd)
      have HEN1 := Lib.hid (fun v w hv hT => HEN.out L v w (by omega) HLO.out hv hT)
      have hBL := fun X err v w ht hv hT => HBL.out L X err v w (by omega) HLO.out ht hv hT
      have hTO := HTOLD.out L
      obtain ⟨la, lc, rfl⟩ := owns_slice HOWN.out
      obtain ⟨da, dc, rfl⟩ := HMA.out.slice
      clear HX HOWN HMA HX3 HLD HEN HBL HTOLD HSY HAT HVB HMS HLL HLO hLq
      generalize DC.pairs L (L.map d) = P at *
      generalize L.map d = dl at *
      rcases hTO with ⟨hfull, ht⟩ | ⟨hfull, ht⟩
      · have HB := Lib.hid (fun v w hv hT => hBL _ _ v w ht hv hT)
        have HEB : Hid (∀ v w, Ints w v L → Tab w → Calls Tryd.prog 15 #[.int .i64 k, v] w fun e w' => e = .returned (.bool true) ∧ w.Extends w') := fun v w hv hT =>
          (HEN1.out v w hv hT).mono fun e w' ⟨⟨b, he, hb⟩, hx⟩ => by
            obtain rfl := hb.2 hfull
            exact ⟨he, hx⟩
        clear hBL ht HEN1 hfull
        go_wp2_with fail
        refine (HLD1.out _ _ wr HVL.out HVD.out).mono ?_
        rintro e w5 ⟨vp, rfl, hx5, hvp⟩
        have HX5 := Lib.hid (Gr.ext_trans HX4.out hx5)
        have HVP := Lib.hid hvp
        have HVL5 := Lib.hid (HVL.out.ext hx5)
        clear hx5 hvp HX4 HVL HVD HLD1
        go_wp2_with fail
        refine (HB.out vp w5 HVP.out (HT.out.ext HX5.out)).mono ?_
        rintro e w6 ⟨vx, rfl, hx6, hvx⟩
        have HX6 := Lib.hid (Gr.ext_trans HX5.out hx6)
        have HVX := Lib.hid hvx
        have HVL6 := Lib.hid (HVL5.out.ext hx6)
        clear hx6 hvx HX5 HVL5 HVP HB
        go_wp2_with fail
        refine (HEB.out _ w6 HVL6.out (HT.out.ext HX6.out)).mono ?_
        rintro e w7 ⟨rfl, hx7⟩
        have HX7 := Lib.hid (Gr.ext_trans HX6.out hx7)
        have HVX7 := Lib.hid (HVX.out.ext hx7)
        clear hx7 HX6 HVL6 HVX HEB
        go_wp2_with fail
        refine (num11_any _ w7).mono ?_
        rintro e w' ⟨rfl, rfl⟩
        go_wp2_with fail
        refine (from_any vx src w7 HVX7.out (by have := HSL.out; omega)).mono ?_
        rintro e w8 ⟨vf, rfl, hx8, hvf⟩
        have HX8 := Lib.hid (Gr.ext_trans HX7.out hx8)
        have HVF := Lib.hid hvf
        clear hx8 hvf HX7 HVX7
        go_wp2_with fail
        refine (same_any vf _ src w8 HVF.out (HS.out.ext HX8.out)).mono ?_
        rintro e w9 ⟨rfl, hb9⟩
        have HX9 := Lib.hid (Gr.ext_trans HX8.out (Gr.ext_of hb9))
        clear hb9
        go_wp2
        go_ret
        exact ⟨rfl, HX9.out⟩
      · have HB := Lib.hid (fun v w hv hT => hBL _ _ v w ht hv hT)
        have HEB : Hid (∀ v w, Ints w v L → Tab w → Calls Tryd.prog 15 #[.int .i64 k, v] w fun e w' => e = .returned (.bool false) ∧ w.Extends w') := fun v w hv hT =>
          (HEN1.out v w hv hT).mono fun e w' ⟨⟨b, he, hb⟩, hx⟩ => by
            cases b with
            | false => exact ⟨he, hx⟩
            | true => exact absurd (hb.1 rfl) hfull
        clear hBL ht HEN1 hfull
        go_wp2_with fail
        refine (HLD1.out _ _ wr HVL.out HVD.out).mono ?_
        rintro e w5 ⟨vp, rfl, hx5, hvp⟩
        have HX5 := Lib.hid (Gr.ext_trans HX4.out hx5)
        have HVP := Lib.hid hvp
        have HVL5 := Lib.hid (HVL.out.ext hx5)
        clear hx5 hvp HX4 HVL HVD HLD1
        go_wp2_with fail
        refine (HB.out vp w5 HVP.out (HT.out.ext HX5.out)).mono ?_
        rintro e w6 ⟨vx, rfl, hx6, hvx⟩
        have HX6 := Lib.hid (Gr.ext_trans HX5.out hx6)
        have HVL6 := Lib.hid (HVL5.out.ext hx6)
        obtain ⟨xa, xc, rfl, _⟩ := hvx.slice
        clear hx6 hvx HX5 HVL5 HVP HB
        go_wp2_with fail
        refine (HEB.out _ w6 HVL6.out (HT.out.ext HX6.out)).mono ?_
        rintro e w7 ⟨rfl, hx7⟩
        have HX7 := Lib.hid (Gr.ext_trans HX6.out hx7)
        clear hx7 HX6 HVL6 HEB
        go_wp2_with fail
        refine (num11_any _ w7).mono ?_
        rintro e w' ⟨rfl, rfl⟩
        go_wp2
        go_ret
        exact ⟨rfl, HX7.out⟩
theorem DecodeBack_walk (vs : Value) (src : List (List Nat)) (ve : Value) (es : List Int) (w : World) (hs : Rws w vs src ∧ ∀ k, (src.getD k []).length ≤ 140737488351232) (hv : Ints w ve es ∧ ∀ x ∈ es, -9223372036854775808 ≤ x ∧ x ≤ 9223372036854775807) (hT : Tab w) :
    Calls Tryd.prog 4 #[vs, ve] w fun e w' => e = .returned (.bool true) ∧ Below w.heap.size w w' := by
  suffices H : Calls Tryd.prog 4 #[vs, ve] w fun e w' => e = .returned (.bool true) ∧ w.Extends w' from H.mono fun e w' h => ⟨h.1, Gr.below_of h.2⟩
  obtain ⟨hs, hml⟩ := hs
  obtain ⟨hv, _⟩ := hv
  have hsl := hs.len
  have hvl := hv.len
  by_cases h1 : src.length < 1 ∨ 10 < src.length
  · obtain ⟨a, cap, rfl, _⟩ := hs.slice
    exact dback_far a _ cap ve w hT hsl h1
  cases hf : few src with
  | false => exact dback_many vs ve src w hT hs hml (by omega) (by omega) hf
  | true =>
    by_cases h2 : (src.getD 0 []).length < 1 ∨ 64 < (src.getD 0 []).length ∨ 30 < es.length
    · obtain ⟨a, cap, rfl, _⟩ := hv.slice
      exact dback_size vs a _ cap src w hT hs hml (by omega) (by omega) hf hvl h2
    have hnone : ∀ err : Int, err ≠ 0 → (∀ w, Rws w vs src → Calls Tryd.prog 17 #[.int .i64 (src.getD 0 []).length, vs] w (NoBlock w err)) → Calls Tryd.prog 4 #[vs, ve] w fun e w' => e = .returned (.bool true) ∧ w.Extends w' := fun err hne hn => by
      obtain ⟨a, cap, rfl, _⟩ := hv.slice
      exact dback_none vs a _ cap src w hT hs hml (by omega) (by omega) hf (by omega) (by omega) (by omega) err hne hn
    by_cases ha : AllB ((src.getD 0 []).length : Int) src
    · obtain ⟨r, er, hr⟩ := seed_exists src.length
      have hr0 := hr
      rcases hr with ⟨rfl, _, hg, _⟩ | ⟨rfl, _⟩
      · obtain ⟨c, hc⟩ := BM.parts_exist (src.getD 0 []).length hg hs.all_lt
        exact dback_main vs ve src es _ r _ c w hT hs hv hml rfl (by omega) (by omega) hf rfl (by omega) (by omega) (by omega) ha hr0 hc
      · exact hnone 5 (by decide) fun w hw => refNew_none _ vs src _ w (by omega) (by omega) rfl (by omega) (by omega) hw ha r hr0
    · exact hnone 10 (by decide) fun w hw => refNew_rows _ vs src _ w (by omega) (by omega) rfl (by omega) (by omega) hw ha
end Go.Proofs.YtpeegcncpcpbfaaDoor
/- append(s, x...) onto a slice that the call itself made: besides, the array is the old one or a new one. -/
namespace Go.Proofs.YtpeegcncpcpbfaaDoor
set_option maxRecDepth 20000
open Go.RowKit Go.Deep
set_option linter.unusedVariables false
section
variable {P : Program} (w : World)
theorem run_append_own_src2 (base : Nat) (t tx ty e : TypeId) (i : TypeInfo) (z : Value) (size bytes : Nat) (ht : P.underlying t = some (.slice e)) (hi : P.info? e = some i) (hz : i.zero = some z)
    (hsize : i.size = size) (hby : i.bytes = bytes) (hzs : z.cells.size = size)
    (v : Value) (n : Nat) (xs : List Value) (hown : w.ownsRow base e size v n xs) (x : Value) (m : Nat) (news : List Value) (hs : Src P size tx x m news w)
    (h63 : n + m ≤ maxLen) (hbytes : (n + m) * bytes ≤ 140737488355328) (hbase : base ≤ w.heap.size) :
    ∃ v' w', (Builtin.append_ #[t, tx] ty #[v, x]).run P w = .ok v' w' ∧ w'.ownsRow base e size v' (n + m) (xs ++ news) ∧ w.grownBy w' v.ownBlock ∧
      (v'.ownBlock = v.ownBlock ∨ ∃ g, v'.ownBlock = some g ∧ w.heap.size ≤ g) := by
  subst hsize
  subst hby
  have hsmall : n + m ≤ 9223372036854775807 := by simp only [maxLen] at h63; omega
  have hl := hs.newsLen
  have hlen : (xs ++ news).length = (n + m) * i.size := by rw [List.length_append, hown.1, hl, Nat.add_mul]
  have grown : ∀ (old : Nat), old < n + m → ∀ (row : Option Nat),
      (w.drew.alloc (.cells ((xs ++ news).toArray ++ Builtin.zeroCells z.cells (grownCap w (n + m) old e - (n + m))) e)).ownsRow base e i.size
        (.slice (some ⟨w.heap.size, 0, none⟩) (n + m) (grownCap w (n + m) old e)) (n + m) (xs ++ news) ∧
      w.grownBy (w.drew.alloc (.cells ((xs ++ news).toArray ++ Builtin.zeroCells z.cells (grownCap w (n + m) old e - (n + m))) e)) row := by
    intro old ho row
    have hge := grownCap_ge w (n + m) old e
    have hcm : grownCap w (n + m) old e ≤ maxLen := grownCap_le_maxLen w (n + m) old e h63
    refine ⟨⟨hlen, .inr ⟨w.heap.size, _, _, rfl, hbase, heap_alloc_new w.drew _, hge, hcm, ?_, ?_⟩⟩, ⟨rfl, rfl, rfl, by simp, fun k hk _ => Below.heap_alloc w.drew _ k hk⟩⟩
    · simp only [Array.size_append, List.size_toArray, size_zeroCells, hzs, hlen, ← Nat.add_mul]
      congr 1
      omega
    · simp only [Array.toList_append]
      rw [← hlen]
      exact List.take_left
  rcases hown.2 with ⟨rfl, rfl⟩ | ⟨g, cap, cur, rfl, hbg, hg, hnc, hcm, hcs, htake⟩
  · have hx : xs = [] := List.eq_nil_of_length_eq_zero (by simpa using hown.1)
    subst hx
    by_cases hm : m = 0
    · subst hm
      have hn : news = [] := List.eq_nil_of_length_eq_zero (by simpa using hl)
      subst hn
      refine ⟨.slice none 0 0, w, ?_, World.ownsRow_nil w base e i.size, ⟨rfl, rfl, rfl, Nat.le_refl _, fun _ _ _ => rfl⟩, .inl rfl⟩
      rcases hs.kind with ⟨e', hk⟩ | hk <;> simp [Builtin.append_, run_underlying ht, run_underlying hk, sizeOf, typeInfo, hi, hs.len, hs.cells]
    · have hr := run_append_grow_src (P := P) w t tx ty e i z ht hi hz none 0 0 [] (by simp [Builtin.firstCells]) x m news hs (by omega) (by omega) (growslice_fits (by omega) (by have hb := hbytes; simp only [Nat.zero_add] at hb ⊢; exact hb))
      have hgr := grown 0 (by omega) (Value.ownBlock (.slice none 0 0))
      simp only [Nat.zero_add, List.nil_append] at hgr hr ⊢
      exact ⟨_, _, hr, hgr.1, hgr.2, .inr ⟨_, rfl, Nat.le_refl _⟩⟩
  · by_cases hroom : n + m ≤ cap
    · have hfit : n * i.size + news.length ≤ cur.size := by rw [hl, hcs, ← Nat.add_mul]; exact Nat.mul_le_mul_right _ hroom
      have hst := run_storeCells_at P g (n * i.size) e news 0 cur w hg (by simpa using hfit) hs.one
      simp only [Nat.add_zero] at hst
      have hr : (Builtin.append_ #[t, tx] ty #[.slice (some ⟨g, 0, none⟩) n cap, x]).run P w =
          .ok (.slice (some ⟨g, 0, none⟩) (n + m) cap) (w.setRow g (cur.toList.take (n * i.size) ++ news ++ cur.toList.drop (n * i.size + news.length)).toArray) := by
        rcases hs.kind with ⟨e', hk⟩ | hk <;> simp [Builtin.append_, run_underlying ht, run_underlying hk, sizeOf, typeInfo, hi, hs.len, hroom, hs.cells, Addr.add_lit, hst]
      refine ⟨_, _, hr, ⟨hlen, .inr ⟨g, cap, _, rfl, hbg, setRow_heap w g cur _ e _ hg, hroom, hcm, ?_, ?_⟩⟩, ⟨rfl, rfl, rfl, by simp, fun k _ hk => setRow_other w g k _ (fun e => hk (by simp [Value.ownBlock, e]))⟩, .inl rfl⟩
      · simp only [List.size_toArray, List.length_append, List.length_take, List.length_drop, Array.length_toList]
        omega
      · rw [htake, ← hlen]
        exact List.take_left
    · have holds : ∀ j u, xs[j]? = some u → w.cell? ((⟨g, 0, none⟩ : Addr).add j) = some u := hown.cells (g := g) rfl
      have hold := run_firstCells_some (P := P) w.drew i.size n ⟨g, 0, none⟩ n cap xs hown.1 (by simpa using holds)
      have hr := run_append_grow_src (P := P) w t tx ty e i z ht hi hz (some ⟨g, 0, none⟩) n cap xs hold x m news hs (by omega) (by omega) (growslice_fits (by omega) hbytes)
      have hgr := grown cap (by omega) (Value.ownBlock (.slice (some ⟨g, 0, none⟩) n cap))
      exact ⟨_, _, hr, hgr.1, hgr.2, .inr ⟨_, rfl, Nat.le_refl _⟩⟩
theorem wp_append_own_src2 {o : Oper} {a : Act} {K : Act → World → Prop} {Q : Exit → Act → World → Prop} (s x : Operand) (t tx : TypeId)
    (ho : o.op = .call { callee := .builtin .append, args := #[s, x], argTypes := #[t, tx] })
    (base : Nat) (e : TypeId) (i : TypeInfo) (z : Value) (size bytes : Nat) (ht : P.underlying t = some (.slice e)) (hi : P.info? e = some i) (hz : i.zero = some z)
    (hsize : i.size = size) (hby : i.bytes = bytes) (hzs : z.cells.size = size)
    (v : Value) (n : Nat) (xs : List Value) (hs : a.eval s = v) (hown : w.ownsRow base e size v n xs) (y : Value) (m : Nat) (news : List Value) (hx : a.eval x = y) (hsrc : Src P size tx y m news w)
    (h63 : n + m ≤ maxLen) (hbytes : (n + m) * bytes ≤ 140737488355328) (hbase : base ≤ w.heap.size)
    (h : ∀ v' w', w'.ownsRow base e size v' (n + m) (xs ++ news) → w.grownBy w' v.ownBlock → (v'.ownBlock = v.ownBlock ∨ ∃ g, v'.ownBlock = some g ∧ w.heap.size ≤ g) → K (a.put o.dst v') w') : o.wp P a w K Q := by
  obtain ⟨v', w', hr, h2, h3, h4⟩ := run_append_own_src2 (P := P) w base t tx o.type e i z size bytes ht hi hz hsize hby hzs v n xs hown y m news hsrc h63 hbytes hbase
  unfold Oper.wp execOp
  simp only [ho, resolve, invoke, builtin, Sem.run_bind, Sem.run_pure, Result.andThen_ok, List.map_toArray, List.map_cons, List.map_nil, hs, hx, hr]
  exact h v' w' h2 h3 h4
theorem wpList_append_own_src2 {ops : Array Oper} {rest : List Oper} {o : Oper} {a : Act} {Q : Exit → Act → World → Prop} (hgd : o.guard = none) (s x : Operand) (t tx : TypeId)
    (ho : o.op = .call { callee := .builtin .append, args := #[s, x], argTypes := #[t, tx] })
    (base : Nat) (e : TypeId) (i : TypeInfo) (z : Value) (size bytes : Nat) (ht : P.underlying t = some (.slice e)) (hi : P.info? e = some i) (hz : i.zero = some z)
    (hsize : i.size = size) (hby : i.bytes = bytes) (hzs : z.cells.size = size)
    (v : Value) (n : Nat) (xs : List Value) (hs : a.eval s = v) (hown : w.ownsRow base e size v n xs) (y : Value) (m : Nat) (news : List Value) (hx : a.eval x = y) (hsrc : Src P size tx y m news w)
    (h63 : n + m ≤ maxLen) (hbytes : (n + m) * bytes ≤ 140737488355328) (hbase : base ≤ w.heap.size)
    (h : ∀ v' w', w'.ownsRow base e size v' (n + m) (xs ++ news) → w.grownBy w' v.ownBlock → (v'.ownBlock = v.ownBlock ∨ ∃ g, v'.ownBlock = some g ∧ w.heap.size ≤ g) → wpList P ops Q rest (a.put o.dst v') w') : wpList P ops Q (o :: rest) a w :=
  wpList_plain hgd fun _ hK => wp_append_own_src2 w s x t tx ho base e i z size bytes ht hi hz hsize hby hzs v n xs hs hown y m news hx hsrc h63 hbytes hbase fun v' w' h2 h3 h4 => hK _ _ (h v' w' h2 h3 h4)
end
/-- Two slices of a call's own that share no array. -/
def Apart (u v : Value) : Prop := u.ownBlock = none ∨ u.ownBlock ≠ v.ownBlock
theorem MatInv.blk {w : World} {B : Nat} {v : Value} {k : Nat} {l : List (List Nat)} (h : MatInv w B v k l) : ∀ g, v.ownBlock = some g → g < w.heap.size := fun g hg => by
  obtain ⟨vs, ho, _⟩ := h; exact (ho.lt g hg).2
/-- A matrix stays where another one grows. -/
theorem MatInv.beside {w w' : World} {B : Nat} {u v : Value} {k n : Nat} {l : List (List Nat)} {vs : List Value} (h : MatInv w B u k l) (hv : w.ownsRow B 40 1 v n vs) (hg : w.grownBy w' v.ownBlock) (ha : Apart u v) : MatInv w' B u k l := by
  obtain ⟨us, ho, hr⟩ := h
  refine ⟨us, ho.kept hg ha, fun j hj => ?_⟩
  obtain ⟨x, h1, h2⟩ := hr j hj
  refine ⟨x, h1, ?_⟩
  by_cases hn : v.ownBlock = none
  · rw [hn] at hg
    exact h2.ext (ext_below ⟨hg.os, hg.tape, hg.output, hg.size, fun i hi => hg.block i hi (by simp)⟩ rfl)
  · exact h2.grown hg (h2.apart (B' := B) hv (by decide) hn)
theorem RowOk.beside {w w' : World} {B n : Nat} {u v : Value} {xs : List Nat} {vs : List Value} (h : RowOk w B u xs) (hv : w.ownsRow B 40 1 v n vs) (hg : w.grownBy w' v.ownBlock) : RowOk w' B u xs := by
  by_cases hn : v.ownBlock = none
  · rw [hn] at hg
    exact h.ext (ext_below ⟨hg.os, hg.tape, hg.output, hg.size, fun i hi => hg.block i hi (by simp)⟩ rfl)
  · exact h.grown hg (h.apart (B' := B) hv (by decide) hn)
theorem Apart.next {w : World} {B : Nat} {u v v' : Value} {k : Nat} {l : List (List Nat)} (h : Apart u v) (hu : MatInv w B u k l) (hn : v'.ownBlock = v.ownBlock ∨ ∃ g, v'.ownBlock = some g ∧ w.heap.size ≤ g) : Apart u v' := by
  rcases hn with e | ⟨g, hg, hge⟩
  · unfold Apart; rw [e]; exact h
  · cases hb : u.ownBlock with
    | none => exact .inl hb
    | some b => refine .inr fun e => ?_
                rw [hb, hg] at e
                have := hu.blk b hb
                have e' := Option.some.inj e
                omega
theorem Apart.next' {w : World} {B : Nat} {u v v' : Value} {k : Nat} {l : List (List Nat)} (h : Apart v u) (hu : MatInv w B u k l) (hn : v'.ownBlock = v.ownBlock ∨ ∃ g, v'.ownBlock = some g ∧ w.heap.size ≤ g) : Apart v' u := by
  rcases hn with e | ⟨g, hg, hge⟩
  · unfold Apart; rw [e]; exact h
  · refine .inr fun e => ?_
    rw [hg] at e
    have := hu.blk g e.symm
    omega
theorem Apart.symm {u v : Value} (h : Apart u v) (hu : u.ownBlock ≠ none ∨ v.ownBlock = none) : Apart v u := by
  rcases h with h | h
  · rcases hu with hu | hu
    · exact absurd h hu
    · exact .inl hu
  · exact .inr (Ne.symm h)
end Go.Proofs.YtpeegcncpcpbfaaDoor
/- append at a guarded operation (behind '&&' or '||') whose guard holds. -/
namespace Go.Proofs.YtpeegcncpcpbfaaDoor
set_option maxRecDepth 20000
open Go.RowKit Go.Deep
section
variable {P : Program} {w : World}
theorem wpList_wanted {ops : Array Oper} {rest : List Oper} {o : Oper} {a : Act} {Q : Exit → Act → World → Prop} (hg : Region.wanted o (yielded ops a.tmps) = true)
    (h : ∀ K : Act → World → Prop, (∀ a w, wpList P ops Q rest a w → K a w) → o.wp P a w K Q) : wpList P ops Q (o :: rest) a w :=
  wpList_step fun K hK => by simp only [hg, if_true]; exact h K hK
theorem wpList_append_own_srcg {ops : Array Oper} {rest : List Oper} {o : Oper} {a : Act} {Q : Exit → Act → World → Prop} (hgd : Region.wanted o (yielded ops a.tmps) = true) (s x : Operand) (t tx : TypeId)
    (ho : o.op = .call { callee := .builtin .append, args := #[s, x], argTypes := #[t, tx] })
    (base : Nat) (e : TypeId) (i : TypeInfo) (z : Value) (size bytes : Nat) (ht : P.underlying t = some (.slice e)) (hi : P.info? e = some i) (hz : i.zero = some z)
    (hsize : i.size = size) (hby : i.bytes = bytes) (hzs : z.cells.size = size)
    (v : Value) (n : Nat) (xs : List Value) (hs : a.eval s = v) (hown : w.ownsRow base e size v n xs) (y : Value) (m : Nat) (news : List Value) (hx : a.eval x = y) (hsrc : Src P size tx y m news w)
    (h63 : n + m ≤ maxLen) (hbytes : (n + m) * bytes ≤ 140737488355328) (hbase : base ≤ w.heap.size)
    (h : ∀ v' w', w'.ownsRow base e size v' (n + m) (xs ++ news) → w.grownBy w' v.ownBlock → (v' = .slice none 0 0 ↔ v = .slice none 0 0 ∧ m = 0) → wpList P ops Q rest (a.put o.dst v') w') : wpList P ops Q (o :: rest) a w :=
  wpList_wanted hgd fun _ hK => wp_append_own_src w s x t tx ho base e i z size bytes ht hi hz hsize hby hzs v n xs hs hown y m news hx hsrc h63 hbytes hbase fun v' w' h2 h3 h4 => hK _ _ (h v' w' h2 h3 h4)
end
end Go.Proofs.YtpeegcncpcpbfaaDoor
