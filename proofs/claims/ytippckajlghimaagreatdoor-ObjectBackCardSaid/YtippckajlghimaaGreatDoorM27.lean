/- In one text: ObjBackMain, ObjBack. -/
import Derived.Test.YtippckajlghimaaGreatDoorM23
import Derived.Test.YtippckajlghimaaGreatDoorM26
/- ObjectBack within its limits. -/
namespace Go.Proofs.YtippckajlghimaaGreatDoor
set_option maxRecDepth 20000
open Go.RowKit Go.Deep
set_option linter.unusedVariables false
set_option maxHeartbeats 4000000 in
set_option maxRecDepth 100000 in
theorem oback_main (b s m : Int) (v ve : Value) (xs : List Nat) (es : List Int) (w : World) (hT : Tab w) (hv : U8s w v xs) (he : Ints w ve es) (hxb : (xs.length : Int) = b) (h60 : es.length ≤ 60) (h61 : 1 ≤ es.length)
    (hsm : ∀ w, Calls Tryz.prog 7 #[PV b s m] w fun e w' => e = .returned (.bool true) ∧ w.Extends w')
    (n : Nat) (hn1 : 1 ≤ n) (hn : n ≤ 4000) (V : World → Nat → Prop) (D : Nat → Int → List Nat) (F : Nat → List Int → Prop) (kc : Nat → Nat)
    (hVX : ∀ w w' o, V w o → w.Extends w' → V w' o)
    (hnew : ∀ v w, U8s w v xs → Tab w → Calls Tryz.prog 8 #[PV b s m, v] w fun e w' => ∃ o, e = .returned (.tuple #[.pointer (some ⟨o, 0, none⟩), .int .i64 0]) ∧ w.Extends w' ∧ V w' o)
    (hsy : ∀ c, c < n → ∀ (e : Int) o w, EsiOk e → V w o → Tab w → Calls Tryz.prog 11 #[.pointer (some ⟨o, 0, none⟩), .int .i64 c, .int .i64 e] w (SymOut w (D c e) 0))
    (hb : ∀ w, Calls Tryz.prog 18 #[PV b s m] w fun e w' => e = .returned (.int .i64 (n : Nat)) ∧ w.Extends w')
    (hk : ∀ c, c < n → ∀ w, Calls Tryz.prog 20 #[PV b s m, .int .i64 c] w fun e w' => e = .returned (.int .i64 (kc c : Nat)) ∧ w.Extends w')
    (hen : ∀ c, c < n → ∀ (L : List Int) v w, L.length ≤ 60 → (∀ e ∈ L, EsiOk e) → Ints w v L → Calls Tryz.prog 19 #[.int .i64 (kc c : Nat), v] w (Says (F c L) w))
    (hdec : ∀ l M, BackTo b s m D n 0 l M [] → ((∀ c, c < n → F c (M c)) → ∀ v w, Recs w v l → Tab w → Calls Tryz.prog 16 #[PV b s m, v] w (JoinOut w 0 xs)) ∧ ((¬ ∀ c, c < n → F c (M c)) → ∀ v w, Recs w v l → Tab w → Calls Tryz.prog 16 #[PV b s m, v] w (JoinOut w 4 []))) :
    Calls Tryz.prog 5 #[PV b s m, v, ve] w fun e w' => e = .returned (.bool true) ∧ w.Extends w' := by
  have HA := Lib.hid (fun w hT => alive13_any w hT)
  have HSM := Lib.hid hsm
  have HVX := Lib.hid hVX
  have HN := Lib.hid hnew
  have HSY := Lib.hid hsy
  have HB := Lib.hid hb
  have HK := Lib.hid hk
  have HEN := Lib.hid hen
  have HDEC := Lib.hid hdec
  have HT := Lib.hid hT
  have HV := Lib.hid hv
  have hm := hv.len
  unfold maxLen at hm
  obtain ⟨va, vc, rfl, _⟩ := hv.slice
  obtain ⟨ea, ec, rfl, _⟩ := he.slice
  have HVC := Lib.hid he.cell.2
  clear hv he hT hsm hVX hnew hsy hb hk hen hdec
  obtain ⟨i0, hi, hz0, hz1, hz2⟩ := info_parts intinfo
  have HI := Lib.hid hi; clear hi
  have HZ0 := Lib.hid hz0; clear hz0
  have HZ1 := Lib.hid hz1; clear hz1
  have HZ2 := Lib.hid hz2; clear hz2
  obtain ⟨i2, hi', hz0', hz1', hz2'⟩ := info_parts recinfo
  have HI' := Lib.hid hi'; clear hi'
  have HZ0' := Lib.hid hz0'; clear hz0'
  have HZ1' := Lib.hid hz1'; clear hz1'
  have HZ2' := Lib.hid hz2'; clear hz2'
  obtain ⟨xn, hxn⟩ : ∃ xn, xn = xs.length := ⟨_, rfl⟩
  rw [← hxn] at HV hm hxb ⊢
  have HXN := Lib.hid hxn
  clear hxn
  obtain ⟨en, hen⟩ : ∃ en, en = es.length := ⟨_, rfl⟩
  rw [← hen] at HVC h60 h61 ⊢
  clear hen
  subst hxb
  go_enter Tryz.func5, Tryz.ntmps5
  go_upto_region 1 with fail
  generalize hw1 : World.alloc w _ = w1
  have hx1 : w.Extends w1 := by subst hw1; exact prm_ext_alloc _ _
  have hp : PAt w1 w.heap.size xn s m := by subst hw1; exact PAt.new w 23 xn s m
  generalize w.heap.size = bx at hp HVC ⊢
  have HX1 := Lib.hid hx1
  have HP1 := Lib.hid hp
  clear hw1 hx1 hp
  go_wp2_with fail
  refine (HA.out w1 (HT.out.ext HX1.out)).mono ?_
  rintro e w2 ⟨rfl, hx⟩
  have HX2 := Lib.hid (Gr.ext_trans HX1.out hx)
  have HP2 := Lib.hid (HP1.out.ext hx)
  have hb2 := HP2.out.lt
  clear hx
  obtain ⟨p0, p1, p2⟩ := HP2.out
  go_wp2_with fail
  refine (HSM.out w2).mono ?_
  rintro e w3 ⟨rfl, hx⟩
  have HX3 := Lib.hid (Gr.ext_trans HX2.out hx)
  have HP3 := Lib.hid (HP2.out.ext hx)
  have hb3 := HP3.out.lt
  clear hx p0 p1 p2
  obtain ⟨p0, p1, p2⟩ := HP3.out
  have hxx : ((xn : Int) != xn) = false := by simp
  go_wp2_with fail
  refine (HN.out _ w3 (HV.out.ext HX3.out) (HT.out.ext HX3.out)).mono ?_
  rintro e w4 ⟨o, rfl, hx, ho⟩
  have HX4 := Lib.hid (Gr.ext_trans HX3.out hx)
  have HP4 := Lib.hid (HP3.out.ext hx)
  have HO4 := Lib.hid ho
  clear hx ho p0 p1 p2 hxx
  go_wp2_with fail
  refine (num13_any _ w4).mono ?_
  rintro e w' ⟨rfl, rfl⟩
  have hb4 := HP4.out.lt
  obtain ⟨p0, p1, p2⟩ := HP4.out
  go_wp2_with fail
  refine (HB.out w4).mono ?_
  rintro e w5 ⟨rfl, hx⟩
  have HX5 := Lib.hid (Gr.ext_trans HX4.out hx)
  have HP5 := Lib.hid (HP4.out.ext hx)
  have HO5 := Lib.hid (HVX.out w4 w5 o HO4.out hx)
  clear hx p0 p1 p2
  go_wp2_with fail
  go_loopw [10, 12, 13] (fun a t i wr => ∃ (q : Nat) (l : List Rc) (M : Nat → List Int) (eb : Bool), q ≤ n ∧ i = .int .i64 q ∧ t = .bool eb ∧ Hid (w5.Extends wr) ∧ Hid (RMats wr w5.heap.size 0 a l.length l) ∧ Hid (BackTo xn s m D q 0 l M []) ∧ Hid (eb = true ↔ ∀ c, c < q → F c (M c))) (fun _ _ i _ => (n - intOf i).toNat)
  case atStart => exact ⟨0, [], fun _ => [], true, by omega, rfl, rfl, Lib.hid (Gr.ext_refl _), Lib.hid (RMats.nil _ _ _ _), Lib.hid (BackTo.start _ _ _ _ _), Lib.hid ⟨fun _ c hc => absurd hc (Nat.not_lt_zero _), fun _ => rfl⟩⟩
  case round =>
    obtain ⟨q, l, M, eb, hq, rfl, rfl, HX, HM, HBT, HEB⟩ := hrel
    by_cases h7 : q < n
    · have HSQ := Lib.hid (HSY.out q h7)
      go_wp2_with fail
      go_loopw [10, 14, 15] (fun a mi i wr => ∃ (z : Nat) (l : List Rc) (A : List Int), z ≤ en ∧ i = .int .i64 z ∧ Hid (w5.Extends wr) ∧ Hid (RMats wr w5.heap.size 0 a l.length l) ∧ Hid (wr.ownsRow w5.heap.size 3 1 mi A.length (i64vs A)) ∧ Hid (BackTo xn s m D q z l M A)) (fun _ _ i _ => (en - intOf i).toNat)
      case atStart => exact ⟨0, l, [], by omega, rfl, HX, HM, Lib.hid (World.ownsRow_nil _ _ _ _), HBT⟩
      case round =>
        clear HX HM HBT
        obtain ⟨z, l, A, hz, rfl, HX, HM, HOWN, HBT⟩ := hrel
        by_cases h8 : z < en
        · obtain ⟨b2, o2, rfl, hb2', hc2⟩ := HVC.out (by omega)
          have hce := (Gr.ext_trans HX5.out HX.out).cell_of (hc2 z h8)
          clear hc2
          generalize es.getD z 0 = x at *
          have hbits := and10 x
          obtain ⟨y, hy⟩ : ∃ y, y = x % 1024 := ⟨_, rfl⟩
          rw [← hy] at hbits
          have hy0 : 0 ≤ y := by omega
          have hy1 : y < 1024 := by omega
          clear hy
          by_cases hskip : ¬ (y % (n : Int) = q) ∧ y < 700
          · obtain ⟨c1, c2⟩ := hskip
            go_wp2
            go_roundw
            case rel => exact ⟨z + 1, l, A, by omega, by go_num, HX, HM, HOWN, Lib.hid HBT.out.skip⟩
            case measure => simp [intOf]; omega
          · have hb20 := and20 (x / 1024)
            obtain ⟨k0, hk0⟩ : ∃ k0, k0 = x / 1024 % 1048576 := ⟨_, rfl⟩
            rw [← hk0] at hb20
            have HK0 : Hid (EsiOk k0) := ⟨by omega, by omega⟩
            have hb4 := and4 k0
            obtain ⟨k1, hk1⟩ : ∃ k1, k1 = k0 % 16 := ⟨_, rfl⟩
            rw [← hk1] at hb4
            have HK1 : Hid (EsiOk k1) := ⟨by omega, by omega⟩
            have hb1 := and1 (x / 2147483648)
            obtain ⟨pp, hpp⟩ : ∃ pp, pp = x / 2147483648 % 2 := ⟨_, rfl⟩
            rw [← hpp] at hb1
            clear hk0 hk1 hpp
            have HPr := Lib.hid (HP5.out.ext HX.out)
            have hbr := HPr.out.lt
            have HXr := Lib.hid (Gr.ext_trans HX5.out HX.out)
            have HOr := Lib.hid (HVX.out w5 wr o HO5.out HX.out)
            obtain ⟨p0, p1, p2⟩ := HPr.out
            have hw : y % (n : Int) = q ∨ (¬ (y % (n : Int) = q) ∧ ¬ y < 700) := by
              by_cases c1 : y % (n : Int) = q
              · exact .inl c1
              · exact .inr ⟨c1, fun h => hskip ⟨c1, h⟩⟩
            clear hskip
            have hpc : (pp == 1) = true ∨ (pp == 1) = false := by cases (pp == 1) <;> simp
            rcases hw with c1 | ⟨c1, c2⟩
            · rcases hpc with c3 | c3
              · go_wp2_with fail
                refine (HSQ.out k1 o wr HK1.out HOr.out (HT.out.ext HXr.out)).mono ?_
                rintro e w6 ⟨u, rfl, hx, hok⟩
                have HX6 := Lib.hid (Gr.ext_trans HX.out hx)
                have HM6 := Lib.hid (HM.out.ext hx)
                have HOW6 := Lib.hid (owns_ext HOWN.out hx)
                have HOK6 := Lib.hid hok
                have HP6 := Lib.hid (HP5.out.ext HX6.out)
                have HBS := Lib.hid (HBT.out.step HK1.out)
                obtain ⟨ua, uc, rfl, _⟩ := hok.1.slice
                clear hx hok HX HM HOWN HPr HXr HOr p0 p1 p2 hce hbits hb20 hb4 hb1
                generalize D q k1 = row at *
                go_wp2_with fail
                refine (num13_any _ w6).mono ?_
                rintro e w' ⟨rfl, rfl⟩
                have hb6 := HP6.out.lt
                obtain ⟨p0, p1, p2⟩ := HP6.out
                obtain ⟨la, lc, rfl⟩ := HM6.out.slice
                obtain ⟨ma, mc, rfl⟩ := owns_slice HOW6.out
                obtain ⟨ll, hll⟩ : ∃ ll, ll = l.length := ⟨_, rfl⟩
                obtain ⟨al, hal⟩ : ∃ al, al = A.length := ⟨_, rfl⟩
                have hll2 : ll ≤ q * 60 + z := by rw [hll]; exact HBT.out.len
                have hal2 : al ≤ z := by rw [hal]; exact HBT.out.cur.1
                rw [← hll] at HM6 ⊢
                rw [← hal] at HOW6 ⊢
                have HLL := Lib.hid hll
                have HAL := Lib.hid hal
                clear hll hal
                have hbs := HX6.out.size
                obtain ⟨us, hsrc, hus⟩ := (HM6.out.ext (ext_alloc w6 (.cells ((⟨0, 0, xn, s, m, q, k1, false, 0, row⟩ : Rc).cells (.slice ua row.length uc)).toArray 49))).srcs (P := Tryz.prog) (tx := 45) Tryz.underlying45
                have HSRC := Lib.hid hsrc
                have HUS := Lib.hid hus
                have HOWR := Lib.hid (owns_rec w6 ⟨0, 0, xn, s, m, q, k1, false, 0, row⟩ (.slice ua row.length uc))
                have HOWRB : Hid ((w6.alloc (.cells ((⟨0, 0, xn, s, m, q, k1, false, 0, row⟩ : Rc).cells (.slice ua row.length uc)).toArray 49)).ownsRow w5.heap.size 49 10 (.slice (some ⟨w6.heap.size, 0, none⟩) 1 1) 1 ((⟨0, 0, xn, s, m, q, k1, false, 0, row⟩ : Rc).cells (.slice ua row.length uc))) := owns_base HOWR.out hbs
                clear hsrc hus
                go_wp2_with (at_builtin; refine wpList_append_own_src _ rfl _ _ 45 45 rfl w5.heap.size 49 i2 (Rc.zero.val (.slice none 0 0)) 10 96 Tryz.underlying45 HI'.out HZ0'.out HZ1'.out HZ2'.out rfl _ _ _ rfl HOWRB.out _ ll us rfl HSRC.out (by unfold maxLen; omega) (by omega) (by simp; omega) ?_)
                intro v7 w7 ho7 hg7 _
                have HX7 : Hid (w5.Extends w7) := ext_own (Gr.ext_trans HX6.out (ext_alloc _ _)) hg7 fun x hx => by simp only [Value.ownBlock, Option.some.injEq] at hx; omega
                have HM7 : Hid (RMats w7 w5.heap.size 0 v7 (⟨0, 0, xn, s, m, q, k1, false, 0, row⟩ :: l).length (⟨0, 0, xn, s, m, q, k1, false, 0, row⟩ :: l)) := RMats.cons rfl HOWRB.out (Nat.zero_le _) (HOK6.out.ext (ext_alloc _ _)) (by rw [← HLL.out]; exact HUS.out) hg7 (by rw [← HLL.out]; exact ho7)
                have HOW7 : Hid (w7.ownsRow w5.heap.size 3 1 (.slice ma al mc) al (i64vs A)) := (HOW6.out.alloc _).kept hg7 (.inr fun e => by have h1 := (HOW6.out.lt w6.heap.size (by rw [e]; rfl)).2; omega)
                obtain ⟨xa, xc, rfl⟩ := HM7.out.slice
                have HOBE : Hid (∀ x, (Value.slice ma al mc).ownBlock = some x → w5.heap.size ≤ x) := fun x hx => (HOW7.out.lt x hx).1
                have hbs7 := HX7.out.size
                clear ho7 hg7 HM6 HOW6 HOK6 HSRC HUS HOWR HOWRB HX6 p0 p1 p2
                go_wp2_with (at_builtin; refine wpList_append_own_src _ rfl _ _ 53 53 rfl w5.heap.size 3 i0 (.int .i64 0) 1 8 Tryz.underlying53 HI.out HZ0.out HZ1.out HZ2.out rfl _ _ _ rfl (HOW7.out.alloc _) _ 1 [.int .i64 k1] rfl (src_one Tryz.underlying53 _ _ rfl rfl) (by unfold maxLen; omega) (by omega) (by simp; omega) ?_)
                intro v8 w8 ho8 hg8 _
                have HP : Hid (w5.Extends w8 ∧ RMats w8 w5.heap.size 0 (.slice xa (⟨0, 0, xn, s, m, q, k1, false, 0, row⟩ :: l).length xc) (⟨0, 0, xn, s, m, q, k1, false, 0, row⟩ :: l).length (⟨0, 0, xn, s, m, q, k1, false, 0, row⟩ :: l) ∧ w8.ownsRow w5.heap.size 3 1 v8 (A ++ [k1]).length (i64vs (A ++ [k1]))) := by
                  refine ⟨Gr.ext_of (((Gr.below_of HX7.out).alloc hbs7 _).grown hg8 (by simp; omega) HOBE.out), (HM7.out.ext (ext_alloc _ _)).by_own (HOW7.out.alloc _) (by decide) (by decide) (Nat.zero_le _) hg8, ?_⟩
                  rw [List.length_append, i64vs_snoc, ← HAL.out]; exact ho8
                clear ho8 hg8
                go_wp2
                go_roundw
                case rel => exact ⟨z + 1, _, _, by omega, by go_num, Lib.hid HP.out.1, Lib.hid HP.out.2.1, Lib.hid HP.out.2.2, HBS⟩
                case measure => simp [intOf]; omega
              · go_wp2_with fail
                refine (HSQ.out k0 o wr HK0.out HOr.out (HT.out.ext HXr.out)).mono ?_
                rintro e w6 ⟨u, rfl, hx, hok⟩
                have HX6 := Lib.hid (Gr.ext_trans HX.out hx)
                have HM6 := Lib.hid (HM.out.ext hx)
                have HOW6 := Lib.hid (owns_ext HOWN.out hx)
                have HOK6 := Lib.hid hok
                have HP6 := Lib.hid (HP5.out.ext HX6.out)
                have HBS := Lib.hid (HBT.out.step HK0.out)
                obtain ⟨ua, uc, rfl, _⟩ := hok.1.slice
                clear hx hok HX HM HOWN HPr HXr HOr p0 p1 p2 hce hbits hb20 hb4 hb1
                generalize D q k0 = row at *
                go_wp2_with fail
                refine (num13_any _ w6).mono ?_
                rintro e w' ⟨rfl, rfl⟩
                have hb6 := HP6.out.lt
                obtain ⟨p0, p1, p2⟩ := HP6.out
                obtain ⟨la, lc, rfl⟩ := HM6.out.slice
                obtain ⟨ma, mc, rfl⟩ := owns_slice HOW6.out
                obtain ⟨ll, hll⟩ : ∃ ll, ll = l.length := ⟨_, rfl⟩
                obtain ⟨al, hal⟩ : ∃ al, al = A.length := ⟨_, rfl⟩
                have hll2 : ll ≤ q * 60 + z := by rw [hll]; exact HBT.out.len
                have hal2 : al ≤ z := by rw [hal]; exact HBT.out.cur.1
                rw [← hll] at HM6 ⊢
                rw [← hal] at HOW6 ⊢
                have HLL := Lib.hid hll
                have HAL := Lib.hid hal
                clear hll hal
                have hbs := HX6.out.size
                obtain ⟨us, hsrc, hus⟩ := (HM6.out.ext (ext_alloc w6 (.cells ((⟨0, 0, xn, s, m, q, k0, false, 0, row⟩ : Rc).cells (.slice ua row.length uc)).toArray 49))).srcs (P := Tryz.prog) (tx := 45) Tryz.underlying45
                have HSRC := Lib.hid hsrc
                have HUS := Lib.hid hus
                have HOWR := Lib.hid (owns_rec w6 ⟨0, 0, xn, s, m, q, k0, false, 0, row⟩ (.slice ua row.length uc))
                have HOWRB : Hid ((w6.alloc (.cells ((⟨0, 0, xn, s, m, q, k0, false, 0, row⟩ : Rc).cells (.slice ua row.length uc)).toArray 49)).ownsRow w5.heap.size 49 10 (.slice (some ⟨w6.heap.size, 0, none⟩) 1 1) 1 ((⟨0, 0, xn, s, m, q, k0, false, 0, row⟩ : Rc).cells (.slice ua row.length uc))) := owns_base HOWR.out hbs
                clear hsrc hus
                go_wp2_with (at_builtin; refine wpList_append_own_src _ rfl _ _ 45 45 rfl w5.heap.size 49 i2 (Rc.zero.val (.slice none 0 0)) 10 96 Tryz.underlying45 HI'.out HZ0'.out HZ1'.out HZ2'.out rfl _ _ _ rfl HOWRB.out _ ll us rfl HSRC.out (by unfold maxLen; omega) (by omega) (by simp; omega) ?_)
                intro v7 w7 ho7 hg7 _
                have HX7 : Hid (w5.Extends w7) := ext_own (Gr.ext_trans HX6.out (ext_alloc _ _)) hg7 fun x hx => by simp only [Value.ownBlock, Option.some.injEq] at hx; omega
                have HM7 : Hid (RMats w7 w5.heap.size 0 v7 (⟨0, 0, xn, s, m, q, k0, false, 0, row⟩ :: l).length (⟨0, 0, xn, s, m, q, k0, false, 0, row⟩ :: l)) := RMats.cons rfl HOWRB.out (Nat.zero_le _) (HOK6.out.ext (ext_alloc _ _)) (by rw [← HLL.out]; exact HUS.out) hg7 (by rw [← HLL.out]; exact ho7)
                have HOW7 : Hid (w7.ownsRow w5.heap.size 3 1 (.slice ma al mc) al (i64vs A)) := (HOW6.out.alloc _).kept hg7 (.inr fun e => by have h1 := (HOW6.out.lt w6.heap.size (by rw [e]; rfl)).2; omega)
                obtain ⟨xa, xc, rfl⟩ := HM7.out.slice
                have HOBE : Hid (∀ x, (Value.slice ma al mc).ownBlock = some x → w5.heap.size ≤ x) := fun x hx => (HOW7.out.lt x hx).1
                have hbs7 := HX7.out.size
                clear ho7 hg7 HM6 HOW6 HOK6 HSRC HUS HOWR HOWRB HX6 p0 p1 p2
                go_wp2_with (at_builtin; refine wpList_append_own_src _ rfl _ _ 53 53 rfl w5.heap.size 3 i0 (.int .i64 0) 1 8 Tryz.underlying53 HI.out HZ0.out HZ1.out HZ2.out rfl _ _ _ rfl (HOW7.out.alloc _) _ 1 [.int .i64 k0] rfl (src_one Tryz.underlying53 _ _ rfl rfl) (by unfold maxLen; omega) (by omega) (by simp; omega) ?_)
                intro v8 w8 ho8 hg8 _
                have HP : Hid (w5.Extends w8 ∧ RMats w8 w5.heap.size 0 (.slice xa (⟨0, 0, xn, s, m, q, k0, false, 0, row⟩ :: l).length xc) (⟨0, 0, xn, s, m, q, k0, false, 0, row⟩ :: l).length (⟨0, 0, xn, s, m, q, k0, false, 0, row⟩ :: l) ∧ w8.ownsRow w5.heap.size 3 1 v8 (A ++ [k0]).length (i64vs (A ++ [k0]))) := by
                  refine ⟨Gr.ext_of (((Gr.below_of HX7.out).alloc hbs7 _).grown hg8 (by simp; omega) HOBE.out), (HM7.out.ext (ext_alloc _ _)).by_own (HOW7.out.alloc _) (by decide) (by decide) (Nat.zero_le _) hg8, ?_⟩
                  rw [List.length_append, i64vs_snoc, ← HAL.out]; exact ho8
                clear ho8 hg8
                go_wp2
                go_roundw
                case rel => exact ⟨z + 1, _, _, by omega, by go_num, Lib.hid HP.out.1, Lib.hid HP.out.2.1, Lib.hid HP.out.2.2, HBS⟩
                case measure => simp [intOf]; omega
            · rcases hpc with c3 | c3
              · go_wp2_with fail
                refine (HSQ.out k1 o wr HK1.out HOr.out (HT.out.ext HXr.out)).mono ?_
                rintro e w6 ⟨u, rfl, hx, hok⟩
                have HX6 := Lib.hid (Gr.ext_trans HX.out hx)
                have HM6 := Lib.hid (HM.out.ext hx)
                have HOW6 := Lib.hid (owns_ext HOWN.out hx)
                have HOK6 := Lib.hid hok
                have HP6 := Lib.hid (HP5.out.ext HX6.out)
                have HBS := Lib.hid (HBT.out.step HK1.out)
                obtain ⟨ua, uc, rfl, _⟩ := hok.1.slice
                clear hx hok HX HM HOWN HPr HXr HOr p0 p1 p2 hce hbits hb20 hb4 hb1
                generalize D q k1 = row at *
                go_wp2_with fail
                refine (num13_any _ w6).mono ?_
                rintro e w' ⟨rfl, rfl⟩
                have hb6 := HP6.out.lt
                obtain ⟨p0, p1, p2⟩ := HP6.out
                obtain ⟨la, lc, rfl⟩ := HM6.out.slice
                obtain ⟨ma, mc, rfl⟩ := owns_slice HOW6.out
                obtain ⟨ll, hll⟩ : ∃ ll, ll = l.length := ⟨_, rfl⟩
                obtain ⟨al, hal⟩ : ∃ al, al = A.length := ⟨_, rfl⟩
                have hll2 : ll ≤ q * 60 + z := by rw [hll]; exact HBT.out.len
                have hal2 : al ≤ z := by rw [hal]; exact HBT.out.cur.1
                rw [← hll] at HM6 ⊢
                rw [← hal] at HOW6 ⊢
                have HLL := Lib.hid hll
                have HAL := Lib.hid hal
                clear hll hal
                have hbs := HX6.out.size
                obtain ⟨us, hsrc, hus⟩ := (HM6.out.ext (ext_alloc w6 (.cells ((⟨0, 0, xn, s, m, q, k1, false, 0, row⟩ : Rc).cells (.slice ua row.length uc)).toArray 49))).srcs (P := Tryz.prog) (tx := 45) Tryz.underlying45
                have HSRC := Lib.hid hsrc
                have HUS := Lib.hid hus
                have HOWR := Lib.hid (owns_rec w6 ⟨0, 0, xn, s, m, q, k1, false, 0, row⟩ (.slice ua row.length uc))
                have HOWRB : Hid ((w6.alloc (.cells ((⟨0, 0, xn, s, m, q, k1, false, 0, row⟩ : Rc).cells (.slice ua row.length uc)).toArray 49)).ownsRow w5.heap.size 49 10 (.slice (some ⟨w6.heap.size, 0, none⟩) 1 1) 1 ((⟨0, 0, xn, s, m, q, k1, false, 0, row⟩ : Rc).cells (.slice ua row.length uc))) := owns_base HOWR.out hbs
                clear hsrc hus
                go_wp2_with (at_builtin; refine wpList_append_own_src _ rfl _ _ 45 45 rfl w5.heap.size 49 i2 (Rc.zero.val (.slice none 0 0)) 10 96 Tryz.underlying45 HI'.out HZ0'.out HZ1'.out HZ2'.out rfl _ _ _ rfl HOWRB.out _ ll us rfl HSRC.out (by unfold maxLen; omega) (by omega) (by simp; omega) ?_)
                intro v7 w7 ho7 hg7 _
                have HX7 : Hid (w5.Extends w7) := ext_own (Gr.ext_trans HX6.out (ext_alloc _ _)) hg7 fun x hx => by simp only [Value.ownBlock, Option.some.injEq] at hx; omega
                have HM7 : Hid (RMats w7 w5.heap.size 0 v7 (⟨0, 0, xn, s, m, q, k1, false, 0, row⟩ :: l).length (⟨0, 0, xn, s, m, q, k1, false, 0, row⟩ :: l)) := RMats.cons rfl HOWRB.out (Nat.zero_le _) (HOK6.out.ext (ext_alloc _ _)) (by rw [← HLL.out]; exact HUS.out) hg7 (by rw [← HLL.out]; exact ho7)
                have HOW7 : Hid (w7.ownsRow w5.heap.size 3 1 (.slice ma al mc) al (i64vs A)) := (HOW6.out.alloc _).kept hg7 (.inr fun e => by have h1 := (HOW6.out.lt w6.heap.size (by rw [e]; rfl)).2; omega)
                obtain ⟨xa, xc, rfl⟩ := HM7.out.slice
                have HOBE : Hid (∀ x, (Value.slice ma al mc).ownBlock = some x → w5.heap.size ≤ x) := fun x hx => (HOW7.out.lt x hx).1
                have hbs7 := HX7.out.size
                clear ho7 hg7 HM6 HOW6 HOK6 HSRC HUS HOWR HOWRB HX6 p0 p1 p2
                go_wp2_with (at_builtin; refine wpList_append_own_src _ rfl _ _ 53 53 rfl w5.heap.size 3 i0 (.int .i64 0) 1 8 Tryz.underlying53 HI.out HZ0.out HZ1.out HZ2.out rfl _ _ _ rfl (HOW7.out.alloc _) _ 1 [.int .i64 k1] rfl (src_one Tryz.underlying53 _ _ rfl rfl) (by unfold maxLen; omega) (by omega) (by simp; omega) ?_)
                intro v8 w8 ho8 hg8 _
                have HP : Hid (w5.Extends w8 ∧ RMats w8 w5.heap.size 0 (.slice xa (⟨0, 0, xn, s, m, q, k1, false, 0, row⟩ :: l).length xc) (⟨0, 0, xn, s, m, q, k1, false, 0, row⟩ :: l).length (⟨0, 0, xn, s, m, q, k1, false, 0, row⟩ :: l) ∧ w8.ownsRow w5.heap.size 3 1 v8 (A ++ [k1]).length (i64vs (A ++ [k1]))) := by
                  refine ⟨Gr.ext_of (((Gr.below_of HX7.out).alloc hbs7 _).grown hg8 (by simp; omega) HOBE.out), (HM7.out.ext (ext_alloc _ _)).by_own (HOW7.out.alloc _) (by decide) (by decide) (Nat.zero_le _) hg8, ?_⟩
                  rw [List.length_append, i64vs_snoc, ← HAL.out]; exact ho8
                clear ho8 hg8
                go_wp2
                go_roundw
                case rel => exact ⟨z + 1, _, _, by omega, by go_num, Lib.hid HP.out.1, Lib.hid HP.out.2.1, Lib.hid HP.out.2.2, HBS⟩
                case measure => simp [intOf]; omega
              · go_wp2_with fail
                refine (HSQ.out k0 o wr HK0.out HOr.out (HT.out.ext HXr.out)).mono ?_
                rintro e w6 ⟨u, rfl, hx, hok⟩
                have HX6 := Lib.hid (Gr.ext_trans HX.out hx)
                have HM6 := Lib.hid (HM.out.ext hx)
                have HOW6 := Lib.hid (owns_ext HOWN.out hx)
                have HOK6 := Lib.hid hok
                have HP6 := Lib.hid (HP5.out.ext HX6.out)
                have HBS := Lib.hid (HBT.out.step HK0.out)
                obtain ⟨ua, uc, rfl, _⟩ := hok.1.slice
                clear hx hok HX HM HOWN HPr HXr HOr p0 p1 p2 hce hbits hb20 hb4 hb1
                generalize D q k0 = row at *
                go_wp2_with fail
                refine (num13_any _ w6).mono ?_
                rintro e w' ⟨rfl, rfl⟩
                have hb6 := HP6.out.lt
                obtain ⟨p0, p1, p2⟩ := HP6.out
                obtain ⟨la, lc, rfl⟩ := HM6.out.slice
                obtain ⟨ma, mc, rfl⟩ := owns_slice HOW6.out
                obtain ⟨ll, hll⟩ : ∃ ll, ll = l.length := ⟨_, rfl⟩
                obtain ⟨al, hal⟩ : ∃ al, al = A.length := ⟨_, rfl⟩
                have hll2 : ll ≤ q * 60 + z := by rw [hll]; exact HBT.out.len
                have hal2 : al ≤ z := by rw [hal]; exact HBT.out.cur.1
                rw [← hll] at HM6 ⊢
                rw [← hal] at HOW6 ⊢
                have HLL := Lib.hid hll
                have HAL := Lib.hid hal
                clear hll hal
                have hbs := HX6.out.size
                obtain ⟨us, hsrc, hus⟩ := (HM6.out.ext (ext_alloc w6 (.cells ((⟨0, 0, xn, s, m, q, k0, false, 0, row⟩ : Rc).cells (.slice ua row.length uc)).toArray 49))).srcs (P := Tryz.prog) (tx := 45) Tryz.underlying45
                have HSRC := Lib.hid hsrc
                have HUS := Lib.hid hus
                have HOWR := Lib.hid (owns_rec w6 ⟨0, 0, xn, s, m, q, k0, false, 0, row⟩ (.slice ua row.length uc))
                have HOWRB : Hid ((w6.alloc (.cells ((⟨0, 0, xn, s, m, q, k0, false, 0, row⟩ : Rc).cells (.slice ua row.length uc)).toArray 49)).ownsRow w5.heap.size 49 10 (.slice (some ⟨w6.heap.size, 0, none⟩) 1 1) 1 ((⟨0, 0, xn, s, m, q, k0, false, 0, row⟩ : Rc).cells (.slice ua row.length uc))) := owns_base HOWR.out hbs
                clear hsrc hus
                go_wp2_with (at_builtin; refine wpList_append_own_src _ rfl _ _ 45 45 rfl w5.heap.size 49 i2 (Rc.zero.val (.slice none 0 0)) 10 96 Tryz.underlying45 HI'.out HZ0'.out HZ1'.out HZ2'.out rfl _ _ _ rfl HOWRB.out _ ll us rfl HSRC.out (by unfold maxLen; omega) (by omega) (by simp; omega) ?_)
                intro v7 w7 ho7 hg7 _
                have HX7 : Hid (w5.Extends w7) := ext_own (Gr.ext_trans HX6.out (ext_alloc _ _)) hg7 fun x hx => by simp only [Value.ownBlock, Option.some.injEq] at hx; omega
                have HM7 : Hid (RMats w7 w5.heap.size 0 v7 (⟨0, 0, xn, s, m, q, k0, false, 0, row⟩ :: l).length (⟨0, 0, xn, s, m, q, k0, false, 0, row⟩ :: l)) := RMats.cons rfl HOWRB.out (Nat.zero_le _) (HOK6.out.ext (ext_alloc _ _)) (by rw [← HLL.out]; exact HUS.out) hg7 (by rw [← HLL.out]; exact ho7)
                have HOW7 : Hid (w7.ownsRow w5.heap.size 3 1 (.slice ma al mc) al (i64vs A)) := (HOW6.out.alloc _).kept hg7 (.inr fun e => by have h1 := (HOW6.out.lt w6.heap.size (by rw [e]; rfl)).2; omega)
                obtain ⟨xa, xc, rfl⟩ := HM7.out.slice
                have HOBE : Hid (∀ x, (Value.slice ma al mc).ownBlock = some x → w5.heap.size ≤ x) := fun x hx => (HOW7.out.lt x hx).1
                have hbs7 := HX7.out.size
                clear ho7 hg7 HM6 HOW6 HOK6 HSRC HUS HOWR HOWRB HX6 p0 p1 p2
                go_wp2_with (at_builtin; refine wpList_append_own_src _ rfl _ _ 53 53 rfl w5.heap.size 3 i0 (.int .i64 0) 1 8 Tryz.underlying53 HI.out HZ0.out HZ1.out HZ2.out rfl _ _ _ rfl (HOW7.out.alloc _) _ 1 [.int .i64 k0] rfl (src_one Tryz.underlying53 _ _ rfl rfl) (by unfold maxLen; omega) (by omega) (by simp; omega) ?_)
                intro v8 w8 ho8 hg8 _
                have HP : Hid (w5.Extends w8 ∧ RMats w8 w5.heap.size 0 (.slice xa (⟨0, 0, xn, s, m, q, k0, false, 0, row⟩ :: l).length xc) (⟨0, 0, xn, s, m, q, k0, false, 0, row⟩ :: l).length (⟨0, 0, xn, s, m, q, k0, false, 0, row⟩ :: l) ∧ w8.ownsRow w5.heap.size 3 1 v8 (A ++ [k0]).length (i64vs (A ++ [k0]))) := by
                  refine ⟨Gr.ext_of (((Gr.below_of HX7.out).alloc hbs7 _).grown hg8 (by simp; omega) HOBE.out), (HM7.out.ext (ext_alloc _ _)).by_own (HOW7.out.alloc _) (by decide) (by decide) (Nat.zero_le _) hg8, ?_⟩
                  rw [List.length_append, i64vs_snoc, ← HAL.out]; exact ho8
                clear ho8 hg8
                go_wp2
                go_roundw
                case rel => exact ⟨z + 1, _, _, by omega, by go_num, Lib.hid HP.out.1, Lib.hid HP.out.2.1, Lib.hid HP.out.2.2, HBS⟩
                case measure => simp [intOf]; omega
        · obtain rfl : z = en := by omega
          have HBN := Lib.hid (HBT.out.next h60)
          have HFN : Hid ((∀ c, c < q + 1 → F c (if c = q then A else M c)) ↔ (∀ c, c < q → F c (M c)) ∧ F q A) := by
            constructor
            · intro h
              refine ⟨fun c hc => ?_, ?_⟩
              · have := h c (by omega)
                rwa [if_neg (by omega)] at this
              · have := h q (by omega)
                rwa [if_pos rfl] at this
            · intro h c hc
              by_cases e : c = q
              · subst e; rw [if_pos rfl]; exact h.2
              · rw [if_neg e]; exact h.1 c (by omega)
          have hal2 := HBT.out.cur.1
          have HIA := Lib.hid (owns_ints HOWN.out)
          have HKQ := Lib.hid (HK.out q h7)
          have HEQ := Lib.hid (fun v w hv => HEN.out q h7 A v w (by omega) HBT.out.cur.2.1 hv)
          obtain ⟨ma, mc, rfl⟩ := owns_slice HOWN.out
          have HPr := Lib.hid (HP5.out.ext HX.out)
          have hbr := HPr.out.lt
          obtain ⟨p0, p1, p2⟩ := HPr.out
          generalize kc q = k at *
          clear HOWN HBT
          cases eb with
          | false =>
            have HEBN : Hid (false = true ↔ ∀ c, c < q + 1 → F c (if c = q then A else M c)) := ⟨fun h => (by cases h), fun h => HEB.out.2 (HFN.out.1 h).1⟩
            clear HEB HFN
            go_wp2
            go_roundw
            case rel => exact ⟨q + 1, l, _, false, by omega, by go_num, rfl, HX, HM, HBN, HEBN⟩
            case measure => simp [intOf]; omega
          | true =>
            go_wp2_with fail
            refine (HKQ.out wr).mono ?_
            rintro e w6 ⟨rfl, hx⟩
            have HX6 := Lib.hid (Gr.ext_trans HX.out hx)
            have HM6 := Lib.hid (HM.out.ext hx)
            have HIA6 := Lib.hid (HIA.out.ext hx)
            clear hx HX HM HIA p0 p1 p2
            go_wp2_with fail
            refine (HEQ.out _ w6 HIA6.out).mono ?_
            rintro e w7 ⟨⟨eb, rfl, heb⟩, hx⟩
            have HX7 := Lib.hid (Gr.ext_trans HX6.out hx)
            have HM7 := Lib.hid (HM6.out.ext hx)
            have HEBN : Hid (eb = true ↔ ∀ c, c < q + 1 → F c (if c = q then A else M c)) := by
              show _ ↔ _
              rw [HFN.out, heb]
              exact ⟨fun h => ⟨HEB.out.1 (by first | trivial | rfl), h⟩, fun h => h.2⟩
            clear hx HX6 HM6 HIA6 HEB HFN heb
            go_wp2
            go_roundw
            case rel => exact ⟨q + 1, l, _, eb, by omega, by go_num, rfl, HX7, HM7, HBN, HEBN⟩
            case measure => simp [intOf]; omega
    · obtain rfl : q = n := by omega
      have hd := HDEC.out l M HBT.out
      have HRL := Lib.hid (HM.out.recs rfl)
      have HXr := Lib.hid (Gr.ext_trans HX5.out HX.out)
      have HPr := Lib.hid (HP5.out.ext HX.out)
      have hbr := HPr.out.lt
      obtain ⟨p0, p1, p2⟩ := HPr.out
      obtain ⟨la, lc, rfl⟩ := HM.out.slice
      clear HBT HX HM HDEC
      cases eb with
      | false =>
        have HD := Lib.hid (hd.2 fun h => by have := HEB.out.2 h; cases this)
        clear hd HEB
        generalize l.length = ll at *
        go_wp2_with fail
        refine (HD.out _ wr HRL.out (HT.out.ext HXr.out)).mono ?_
        rintro e w6 ⟨x, rfl, hx, hX⟩
        have HX6 := Lib.hid (Gr.ext_trans HXr.out hx)
        obtain ⟨xa, xc, rfl, _, _⟩ := hX.slice
        clear hx hX p0 p1 p2
        go_wp2_with fail
        refine (num13_any _ w6).mono ?_
        rintro e w' ⟨rfl, rfl⟩
        go_wp2
        go_ret
        exact ⟨rfl, HX6.out⟩
      | true =>
        have HD := Lib.hid (hd.1 (HEB.out.1 (by first | trivial | rfl)))
        clear hd HEB
        generalize l.length = ll at *
        go_wp2_with fail
        refine (HD.out _ wr HRL.out (HT.out.ext HXr.out)).mono ?_
        rintro e w6 ⟨x, rfl, hx, hX⟩
        have HX6 := Lib.hid (Gr.ext_trans HXr.out hx)
        have hc1 := conv_ob hX
        have hc2 := conv_ob (HV.out.ext HX6.out)
        obtain ⟨xa, xc, rfl, _, _⟩ := hX.slice
        rw [← HXN.out] at hc1 ⊢
        clear hx hX p0 p1 p2
        generalize strOf xs = sx at *
        go_wp2_with fail
        refine (num13_any _ w6).mono ?_
        rintro e w' ⟨rfl, rfl⟩
        go_wp2
        go_ret
        exact ⟨by simp, HX6.out⟩
end Go.Proofs.YtippckajlghimaaGreatDoor
/- ObjectBack's function answers true. -/
namespace Go.Proofs.YtippckajlghimaaGreatDoor
set_option maxRecDepth 20000
open Go.RowKit Go.Deep
set_option linter.unusedVariables false
/-- Where nothing is asked. -/
theorem oback_far (b s m : Int) (va ea : Option Addr) (xn vc en ec : Nat) (w : World) (hT : Tab w) (hx : xn ≤ maxLen) (he : en ≤ maxLen) (sm : Bool) (hsm : ∀ w, Calls Tryz.prog 7 #[PV b s m] w fun e w' => e = .returned (.bool sm) ∧ w.Extends w')
    (h : sm = false ∨ (sm = true ∧ (xn : Int) ≠ b) ∨ (sm = true ∧ (xn : Int) = b ∧ 60 < en) ∨ (sm = true ∧ (xn : Int) = b ∧ en < 1)) :
    Calls Tryz.prog 5 #[PV b s m, .slice va xn vc, .slice ea en ec] w fun e w' => e = .returned (.bool true) ∧ w.Extends w' := by
  have HA := Lib.hid (fun w hT => alive13_any w hT)
  have HSM := Lib.hid hsm
  have HT := Lib.hid hT
  unfold maxLen at hx he
  clear hsm hT
  rcases h with rfl | ⟨rfl, h⟩ | ⟨rfl, h, h'⟩ | ⟨rfl, h, h'⟩
  all_goals
    go_enter Tryz.func5, Tryz.ntmps5
    go_upto_region 1 with fail
    generalize hw1 : World.alloc w _ = w1
    have hx1 : w.Extends w1 := by subst hw1; exact prm_ext_alloc _ _
    have hp : PAt w1 w.heap.size b s m := by subst hw1; exact PAt.new w 23 b s m
    generalize w.heap.size = bx at hp ⊢
    have HX1 := Lib.hid hx1
    have HP1 := Lib.hid hp
    clear hw1 hx1 hp
    go_wp2_with fail
    refine (HA.out w1 (HT.out.ext HX1.out)).mono ?_
    rintro e w2 ⟨rfl, hx2⟩
    have HX2 := Lib.hid (Gr.ext_trans HX1.out hx2)
    have HP2 := Lib.hid (HP1.out.ext hx2)
    have hb2 := HP2.out.lt
    clear hx2
    obtain ⟨p0, p1, p2⟩ := HP2.out
    go_wp2_with fail
    refine (HSM.out w2).mono ?_
    rintro e w3 ⟨rfl, hx2⟩
    have HX3 := Lib.hid (Gr.ext_trans HX2.out hx2)
    have HP3 := Lib.hid (HP2.out.ext hx2)
    have hb3 := HP3.out.lt
    clear hx2 p0 p1 p2
    obtain ⟨p0, p1, p2⟩ := HP3.out
  · go_wp2
    go_ret
    exact ⟨rfl, HX3.out⟩
  · have hne : ((xn : Int) != b) = true := by simpa using h
    go_wp2
    go_ret
    exact ⟨rfl, HX3.out⟩
  · have hne : ((xn : Int) != b) = false := by simpa using h
    go_wp2
    go_ret
    exact ⟨rfl, HX3.out⟩
  · have hne : ((xn : Int) != b) = false := by simpa using h
    go_wp2
    go_ret
    exact ⟨rfl, HX3.out⟩
/-- Where there is no object. -/
theorem oback_none (b s m : Int) (v : Value) (ea : Option Addr) (xs : List Nat) (en ec er : Nat) (w : World) (hT : Tab w) (hv : U8s w v xs) (hxb : (xs.length : Int) = b) (h60 : en ≤ 60) (h61 : 1 ≤ en) (her : er = 1 ∨ er = 5)
    (hsm : ∀ w, Calls Tryz.prog 7 #[PV b s m] w fun e w' => e = .returned (.bool true) ∧ w.Extends w')
    (hnew : ∀ v w, U8s w v xs → Tab w → Calls Tryz.prog 8 #[PV b s m, v] w (NoBlock w er)) :
    Calls Tryz.prog 5 #[PV b s m, v, .slice ea en ec] w fun e w' => e = .returned (.bool true) ∧ w.Extends w' := by
  have HA := Lib.hid (fun w hT => alive13_any w hT)
  have HSM := Lib.hid hsm
  have HN := Lib.hid hnew
  have HT := Lib.hid hT
  have HV := Lib.hid hv
  have hm := hv.len
  unfold maxLen at hm
  obtain ⟨va, vc, rfl, _⟩ := hv.slice
  clear hv hT hsm hnew
  obtain ⟨xn, hxn⟩ : ∃ xn, xn = xs.length := ⟨_, rfl⟩
  rw [← hxn] at HV hm hxb ⊢
  clear hxn
  subst hxb
  have hxx : ((xn : Int) != xn) = false := by simp
  rcases her with rfl | rfl
  all_goals
    go_enter Tryz.func5, Tryz.ntmps5
    go_upto_region 1 with fail
    generalize hw1 : World.alloc w _ = w1
    have hx1 : w.Extends w1 := by subst hw1; exact prm_ext_alloc _ _
    have hp : PAt w1 w.heap.size xn s m := by subst hw1; exact PAt.new w 23 xn s m
    generalize w.heap.size = bx at hp ⊢
    have HX1 := Lib.hid hx1
    have HP1 := Lib.hid hp
    clear hw1 hx1 hp
    go_wp2_with fail
    refine (HA.out w1 (HT.out.ext HX1.out)).mono ?_
    rintro e w2 ⟨rfl, hx⟩
    have HX2 := Lib.hid (Gr.ext_trans HX1.out hx)
    have HP2 := Lib.hid (HP1.out.ext hx)
    have hb2 := HP2.out.lt
    clear hx
    obtain ⟨p0, p1, p2⟩ := HP2.out
    go_wp2_with fail
    refine (HSM.out w2).mono ?_
    rintro e w3 ⟨rfl, hx⟩
    have HX3 := Lib.hid (Gr.ext_trans HX2.out hx)
    have HP3 := Lib.hid (HP2.out.ext hx)
    have hb3 := HP3.out.lt
    clear hx p0 p1 p2
    obtain ⟨p0, p1, p2⟩ := HP3.out
    go_wp2_with fail
    refine (HN.out _ w3 (HV.out.ext HX3.out) (HT.out.ext HX3.out)).mono ?_
    rintro e w4 ⟨rfl, hx⟩
    have HX4 := Lib.hid (Gr.ext_trans HX3.out hx)
    clear hx p0 p1 p2
    go_wp2_with fail
    refine (num13_any _ w4).mono ?_
    rintro e w' ⟨rfl, rfl⟩
    go_wp2_with fail
    refine (num13_any _ w4).mono ?_
    rintro e w' ⟨rfl, rfl⟩
  · go_wp2
    go_ret
    exact ⟨rfl, HX4.out⟩
  · go_wp2_with fail
    refine (num13_any _ w4).mono ?_
    rintro e w' ⟨rfl, rfl⟩
    go_wp2
    go_ret
    exact ⟨rfl, HX4.out⟩
theorem full_rev {k j : Nat} (L : List Int) : DC.Full k j L.reverse ↔ DC.Full k j L := DC.full_same fun e => List.mem_reverse
set_option maxHeartbeats 1000000 in
theorem oback_walk (b s m : Int) (v ve : Value) (xs : List Nat) (es : List Int) (w : World) (hv : U8s w v xs) (he : Ints w ve es) (hT : Tab w) :
    Calls Tryz.prog 5 #[PV b s m, v, ve] w fun e w' => e = .returned (.bool true) ∧ w.Extends w' := by
  obtain ⟨sm, hsm⟩ := small13_any b s m w
  have hvl := hv.len
  have hel := he.len
  by_cases hf : sm = false ∨ (sm = true ∧ (xs.length : Int) ≠ b) ∨ (sm = true ∧ (xs.length : Int) = b ∧ 60 < es.length) ∨ (sm = true ∧ (xs.length : Int) = b ∧ es.length < 1)
  · obtain ⟨va, vc, rfl, _⟩ := hv.slice
    obtain ⟨ea, ec, rfl, _⟩ := he.slice
    exact oback_far b s m va ea _ vc _ ec w hT hvl hel sm hsm hf
  obtain rfl : sm = true := by
    cases sm
    · exact absurd (.inl rfl) hf
    · rfl
  have hxb : (xs.length : Int) = b := by
    by_cases h : (xs.length : Int) = b
    · exact h
    · exact absurd (.inr (.inl ⟨rfl, h⟩)) hf
  have h60 : es.length ≤ 60 := by
    by_cases h : 60 < es.length
    · exact absurd (.inr (.inr (.inl ⟨rfl, hxb, h⟩))) hf
    · omega
  have h61 : 1 ≤ es.length := by
    by_cases h : es.length < 1
    · exact absurd (.inr (.inr (.inr ⟨rfl, hxb, h⟩))) hf
    · omega
  clear hf
  have none : ∀ er : Nat, (er = 1 ∨ er = 5) → (∀ v w, U8s w v xs → Tab w → Calls Tryz.prog 8 #[PV b s m, v] w (NoBlock w er)) → Calls Tryz.prog 5 #[PV b s m, v, ve] w fun e w' => e = .returned (.bool true) ∧ w.Extends w' := fun er her hn => by
    obtain ⟨ea, ec, rfl, _⟩ := he.slice
    exact oback_none b s m v ea xs _ ec er w hT hv hxb h60 h61 her hsm hn
  rcases asked13_new b s m xs hv.lt with ⟨er, h0, he1, h1, _⟩ | ⟨S, L, bs, rfl, hR, hl, hLe, hL, hB, h1, _⟩
  · rcases he1 with rfl | he1
    · exact none 1 (.inl rfl) fun v w hv _ => h1 v w hv
    · exact absurd hxb he1
  · by_cases hfu : bs.length = L.length
    · obtain ⟨B, S', M, rfl, e2, rfl⟩ := right_nat hR
      obtain rfl : S' = S := by omega
      obtain rfl : B = xs.length := by omega
      rw [Int.toNat_natCast] at hLe
      obtain ⟨g1, g2, g3, g4, g5, g6⟩ := CM.right_of hR
      have hLl : L.length = CM.bl xs.length S' M := by rw [hLe, CM.cut_length]
      have hn : CM.bl xs.length S' M ≤ 4000 := by omega
      have hk : ∀ c, c < CM.bl xs.length S' M → CM.kk xs.length S' M c = (bs.getD c Bk.zero).k := fun c hc => by
        have := (hB.yes c (by omega)).hk
        rw [hLe, ((CM.cut_fit xs.length S' M xs).2 c (by rw [CM.cut_length]; exact hc)).1] at this
        exact this
      refine oback_main _ _ _ v ve xs es w hT hv he rfl h60 h61 hsm (CM.bl xs.length S' M) (CM.bl_pos _ _ _) hn (fun w o => OV (BLook S') w o (xs.length : Nat) (S' : Nat) (M : Nat) bs) (fun c => DC.dr (bs.getD c Bk.zero).k (bs.getD c Bk.zero).j S' (bs.getD c Bk.zero).c) (fun c => DC.Full (bs.getD c Bk.zero).k (bs.getD c Bk.zero).j) (fun c => (bs.getD c Bk.zero).k)
        (fun w w' o h hx => h.ext (bLooks S') hx) (fun v w hv hT => (h1 v w hv hT).mono fun e w' h => h.1 hfu) (fun c hc e o w he ho hT => ?_) (fun w => rblocks_yes _ _ _ w hR) (fun c hc w => ?_) (fun c hc A v w hA hok hv => ?_) (fun l M' hbt => ?_)
      · have h := osym_any _ _ _ o L bs S' 5 c e w hT hB ho
        unfold OM.sy OM.se at h
        rw [if_pos (by omega), if_pos (by omega), Int.toNat_natCast] at h
        rw [symOf_dr _ _ _ _ _ he] at h
        unfold symErr at h
        rw [if_pos he] at h
        exact h
      · rw [← hk c hc]; exact rk_in _ _ _ c w hR hc
      · have h := hB.yes c (by omega)
        exact renough_yes _ _ v A w h.k1 h.k2 (by omega) hv h.seed fun i hi => hok _ (by rw [List.getD_eq_getElem?_getD, List.getElem?_eq_getElem hi]; exact List.getElem_mem hi)
      · have hB' : Bks (S' : Nat) S' (CM.cut xs.length S' M xs) bs 5 := by rw [← hLe]; exact hB
        have hll : l.length ≤ 1000000 := by have := hbt.len; omega
        refine ⟨fun hall v w hv hT => ?_, fun hnot v w hv hT => ?_⟩
        · exact dec_back xs.length S' M hR xs rfl bs (by omega) hB' l hll (fun c => (M' c).reverse) (fun _ => true) (fun c hc => by rw [List.length_reverse]; have := (hbt.old c hc).1; omega) (fun c hc e he => (hbt.old c hc).2.1 e (List.mem_reverse.1 he)) (fun c hc => (hbt.old c hc).2.2)
            (fun c hc => ⟨fun _ => (full_rev _).2 (hall c hc), fun _ => rfl⟩) 0 xs (.inl ⟨fun _ _ => rfl, rfl, rfl⟩) v w hv hT
        · classical
          refine dec_back xs.length S' M hR xs rfl bs (by omega) hB' l hll (fun c => (M' c).reverse) (fun c => decide (DC.Full (bs.getD c Bk.zero).k (bs.getD c Bk.zero).j (M' c).reverse)) (fun c hc => by rw [List.length_reverse]; have := (hbt.old c hc).1; omega) (fun c hc e he => (hbt.old c hc).2.1 e (List.mem_reverse.1 he)) (fun c hc => (hbt.old c hc).2.2)
            (fun c hc => decide_eq_true_iff) 4 [] (.inr ⟨?_, rfl, rfl⟩) v w hv hT
          obtain ⟨c, hc⟩ := Classical.not_forall.1 hnot
          obtain ⟨hc, hF⟩ := Classical.not_imp.1 hc
          exact ⟨c, hc, decide_eq_false fun h => hF ((full_rev _).1 h)⟩
    · exact none 5 (.inr rfl) fun v w hv hT => (h1 v w hv hT).mono fun e w' h => h.2 hfu
theorem ObjectBack_walk (b s m : Int) (v : Value) (xs : List Nat) (ve : Value) (es : List Int) (w : World) (hs : (Lit.int .i64 b).wf = true ∧ (Lit.int .i64 s).wf = true ∧ (Lit.int .i64 m).wf = true) (hv : U8s w v xs) (he : Ints w ve es ∧ ∀ y ∈ es, -9223372036854775808 ≤ y ∧ y ≤ 9223372036854775807) (hT : Tab w) :
    Calls Tryz.prog 5 #[PV b s m, v, ve] w fun e w' => e = .returned (.bool true) ∧ Below w.heap.size w w' :=
  (oback_walk b s m v ve xs es w hv he.1 hT).mono fun _ _ h => ⟨h.1, Gr.below_of h.2⟩
end Go.Proofs.YtippckajlghimaaGreatDoor
