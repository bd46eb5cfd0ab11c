/- In one text: LokOne, LokAllW, LokOpenM, LokOpenW. -/
import Derived.Test.YtgjnkfbckbkcnaaMA10
namespace Go.Proofs.Ytgjnkfbckbkcnaa
set_option maxRecDepth 20000
open Go.RowKit Go.Deep
set_option linter.unusedVariables false
structure OneX (X : Nat → Prop) (w wr : World) (t : Nat) (s : Lk) (D : Nat → Prop) : Prop where
  x : LAt wr t D s
  dx : ∀ i, D i → w.heap.size ≤ i ∧ i < wr.heap.size
  ext : w.Extends wr
  keep : ∀ i, X i → ¬ D i ∧ i < wr.heap.size
/-- In wr, a world behind w, lies the look t; the blocks of X are none of its own. -/
def One (X : Nat → Prop) (w wr : World) (t : Nat) (s : Lk) : Prop := ∃ D, OneX X w wr t s D
section
variable {w wr w1 : World} {t : Nat} {s s' : Lk} {D X Y : Nat → Prop}
theorem OneX.mx (h : OneX X w wr t s D) (hf : Fr D wr w1) (hl : LAt w1 t (Nx D wr w1) s') : One X w w1 t s' := by
  refine ⟨Nx D wr w1, hl, fun i hi => ?_, hf.own h.ext fun i hi => (h.dx i hi).1, fun i hi => ?_⟩
  · have := h.ext.size
    have := hf.size
    rcases hi with hi | hi
    · exact ⟨(h.dx i hi).1, Nat.lt_of_lt_of_le (h.dx i hi).2 hf.size⟩
    · exact ⟨by omega, hi.2⟩
  · obtain ⟨h1, h3⟩ := h.keep i hi
    refine ⟨fun e => ?_, Nat.lt_of_lt_of_le h3 hf.size⟩
    rcases e with e | e
    · exact h1 e
    · omega
theorem One.far (h : One X w wr t s) (hx : wr.Extends w1) : One X w w1 t s := by
  obtain ⟨D, h⟩ := h
  exact ⟨D, h.x.ext hx, fun i hi => ⟨(h.dx i hi).1, Nat.lt_of_lt_of_le (h.dx i hi).2 hx.size⟩, Gr.ext_trans h.ext hx, fun i hi => ⟨(h.keep i hi).1, Nat.lt_of_lt_of_le (h.keep i hi).2 hx.size⟩⟩
theorem One.ext (h : One X w wr t s) : w.Extends wr := by
  obtain ⟨D, h⟩ := h
  exact h.ext
theorem One.sub (h : One X w wr t s) (hX : ∀ i, Y i → X i) : One Y w wr t s := by
  obtain ⟨D, h⟩ := h
  exact ⟨D, h.x, h.dx, h.ext, fun i hi => h.keep i (hX i hi)⟩
theorem One.inv (h : One X w wr t s) : s.Inv ∧ s.known.length ≤ 8000 := by
  obtain ⟨D, ⟨mk, mo, q, v, hs, hX, _⟩, _⟩ := h
  exact ⟨hX.inv, hX.len⟩
theorem One.start (hl : LAt wr t (fun i => w1.heap.size ≤ i ∧ i < wr.heap.size) s) (h1 : w.Extends w1) (h2 : w1.Extends wr) (hX : ∀ i, X i → i < w1.heap.size) : One X w wr t s :=
  ⟨_, hl, fun i hi => ⟨Nat.le_trans h1.size hi.1, hi.2⟩, Gr.ext_trans h1 h2, fun i hi => ⟨fun e => by have := hX i hi; omega, Nat.lt_of_lt_of_le (hX i hi) h2.size⟩⟩
/-- The law makes a block more. -/
theorem One.box (h : One X w wr t s) {o : Obj} (hw : w1 = wr.alloc o) : One (fun i => X i ∨ i = wr.heap.size) w w1 t s := by
  obtain ⟨D, h⟩ := h
  have hx : wr.Extends w1 := by rw [hw]; exact ext_alloc _ _
  have hs : w1.heap.size = wr.heap.size + 1 := by rw [hw]; simp
  refine ⟨D, h.x.ext hx, fun i hi => ⟨(h.dx i hi).1, Nat.lt_of_lt_of_le (h.dx i hi).2 hx.size⟩, Gr.ext_trans h.ext hx, fun i hi => ?_⟩
  rcases hi with hi | hi
  · exact ⟨(h.keep i hi).1, Nat.lt_of_lt_of_le (h.keep i hi).2 hx.size⟩
  · exact ⟨fun e => by have := (h.dx i e).2; omega, by omega⟩
/-- The law writes a block of X, or makes one. -/
theorem One.wrote (h : One X w wr t s) {r : Option Nat} (hg : wr.grownBy w1 r) (hr : ∀ g, r = some g → X g ∧ w.heap.size ≤ g) {v : Value} (hv : v.ownBlock = r ∨ ∃ g, v.ownBlock = some g ∧ wr.heap.size ≤ g) (hl : ∀ g, v.ownBlock = some g → g < w1.heap.size) : One (fun i => v.ownBlock = some i) w w1 t s := by
  obtain ⟨D, h⟩ := h
  have hf : Fr (fun i => r = some i) wr w1 := Fr.grown hg fun g e => e
  have hb : w.Extends w1 := Gr.ext_of ((Gr.below_of h.ext).grown hg h.ext.size fun g hg => (hr g hg).2)
  refine ⟨D, h.x.away hf (fun i h1 h2 => (h.keep i (hr i h2).1).1 h1), fun i hi => ⟨(h.dx i hi).1, Nat.lt_of_lt_of_le (h.dx i hi).2 hg.size⟩, hb, fun i hi => ⟨fun e => ?_, hl i hi⟩⟩
  rcases hv with e2 | ⟨g, e2, h3⟩
  · exact (h.keep i (hr i (e2 ▸ hi)).1).1 e
  · rw [e2] at hi
    have := Option.some.inj hi
    have := (h.dx i e).2
    omega
theorem One.heard (h : One X w wr t s) {p : Int} {v : Value} {m : List Int} (hp : In64 p) (hv : Ints wr v m) (hm : ∀ x ∈ m, In64 x) (hl : s.known.length + m.length ≤ 8000) (hd : m = [] ∨ ∀ g, v.ownBlock = some g → g < w.heap.size ∨ X g) :
    Calls Try.prog 11 #[.pointer (some ⟨t, 0, none⟩), .int .i64 p, v] wr fun e w1 => e = .returned (.tuple #[]) ∧ One X w w1 t (s.heard p m) ∧ ∀ i, X i → w1.heap[i]? = wr.heap[i]? := by
  obtain ⟨D, h⟩ := h
  refine (lheard_any t D s p v m wr h.x hp hv hm hl (hd.imp id fun hd g hg => ?_)).mono fun e w1 ⟨he, hf, hl⟩ => ⟨he, h.mx hf hl, fun i hi => hf.away i (h.keep i hi).2 (h.keep i hi).1⟩
  rcases hd g hg with h1 | h1
  · exact ⟨Nat.lt_of_lt_of_le h1 h.ext.size, fun e => by have := (h.dx g e).1; omega⟩
  · exact ⟨(h.keep g h1).2, (h.keep g h1).1⟩
theorem One.lost (h : One X w wr t s) {p : Int} (hp : In64 p) :
    Calls Try.prog 13 #[.pointer (some ⟨t, 0, none⟩), .int .i64 p] wr fun e w1 => e = .returned (.tuple #[]) ∧ One X w w1 t (s.over p) ∧ ∀ i, X i → w1.heap[i]? = wr.heap[i]? := by
  obtain ⟨D, h⟩ := h
  exact (llost_any t D s p wr h.x hp).mono fun e w1 ⟨he, hf, hl⟩ => ⟨he, h.mx hf hl, fun i hi => hf.away i (h.keep i hi).2 (h.keep i hi).1⟩
theorem One.done (h : One X w wr t s) : Calls Try.prog 15 #[.pointer (some ⟨t, 0, none⟩)] wr fun e w1 => e = .returned (.bool s.done) ∧ wr = w1 := by
  obtain ⟨D, h⟩ := h
  exact ldone_any t D s wr h.x
theorem One.asked (h : One X w wr t s) : Calls Try.prog 18 #[.pointer (some ⟨t, 0, none⟩)] wr (IntsBack wr s.asked) := by
  obtain ⟨D, h⟩ := h
  exact lasked_any t D s wr h.x
theorem One.next (h : One X w wr t s) : Calls Try.prog 9 #[.pointer (some ⟨t, 0, none⟩)] wr fun e w1 => (e = .returned (.tuple #[.int .i64 0, .bool false]) ∧ s.Left0 s.known.length ∧ One X w w1 t s ∧ wr = w1) ∨ ∃ p, e = .returned (.tuple #[.int .i64 p, .bool true]) ∧ s.Best s.known.length p ∧ One X w w1 t (s.asks p) ∧ ∀ i, X i → w1.heap[i]? = wr.heap[i]? := by
  obtain ⟨D, h⟩ := h
  refine (lnext_any t D s wr h.x).mono fun e w1 h1 => ?_
  rcases h1 with ⟨hl, rfl, rfl⟩ | ⟨p, hp, rfl, hf, hl⟩
  · exact .inl ⟨rfl, hl, ⟨D, h⟩, rfl⟩
  · exact .inr ⟨p, rfl, hp, h.mx hf hl, fun i hi => hf.away i (h.keep i hi).2 (h.keep i hi).1⟩
end
namespace Lk
variable {s : Lk} {p : Int}
theorem outI_one (p : Int) : outI p [p] = [] := by simp [outI]
theorem over_asks (h : s.opn = []) : (s.asks p).over p = { s with asked := s.asked ++ [p] } := by
  unfold over asks
  rw [h]
  show Lk.mk _ _ _ _ (outI p ([] ++ [p])) = _
  rw [List.nil_append, outI_one, ← h]
theorem heard_asks (h : s.opn = []) (m : List Int) : (s.asks p).heard p m = ({ s with asked := s.asked ++ [p] } : Lk).more m := by
  unfold heard
  rw [if_pos (by unfold asks; simp), over_asks h]
theorem known_add (s : Lk) (x y : Int) (h : y ∈ s.known) : y ∈ (s.add x).known := by
  unfold add
  split
  · exact h
  · exact List.mem_append_left _ h
theorem known_more (s : Lk) (m : List Int) (y : Int) (h : y ∈ s.known) : y ∈ (s.more m).known := by
  induction m generalizing s with
  | nil => exact h
  | cons a r ih => exact ih (s.add a) (known_add s a y h)
/-- Whoever can be asked is known. -/
theorem more_knows (s : Lk) (m : List Int) (y : Int) (hy : y ∈ m) (h0 : 0 ≤ y) (hs : y ≠ s.self) : y ∈ (s.more m).known := by
  induction m generalizing s with
  | nil => exact nomatch hy
  | cons a r ih =>
    show y ∈ ((s.add a).more r).known
    by_cases e : y = a
    · subst e
      refine known_more _ _ _ ?_
      unfold add
      split
      · rename_i h
        rcases h with h | h | h
        · omega
        · exact absurd h hs
        · exact h
      · exact List.mem_append_right _ (by simp)
    · exact ih (s.add a) (by rcases List.mem_cons.1 hy with h | h; exact absurd h e; exact h) (by rw [add_self]; exact hs)
theorem Left0.all (h : s.Left0 s.known.length) : ∀ y ∈ s.known, y ∈ s.asked := fun y hy => by
  obtain ⟨i, hi, e⟩ := List.mem_iff_getElem.1 hy
  exact h i y hi (by rw [List.getElem?_eq_getElem hi, e])
theorem Left0.done (h : s.Left0 s.known.length) (hi : s.Inv) (ho : s.opn = []) : s.done = true := by
  have h1 := nodup_le hi.nodup h.all
  have h2 := hi.most
  unfold Lk.done
  rw [ho]
  simp
  omega
end Lk
end Go.Proofs.Ytgjnkfbckbkcnaa
namespace Go.Proofs.Ytgjnkfbckbkcnaa
set_option maxRecDepth 20000
open Go.RowKit Go.Deep
set_option linter.unusedVariables false
theorem nodup_take {l : List Int} (h : l.Nodup) {j : Nat} (hj : j < l.length) : l.getD j 0 ∉ l.take j := fun e => by
  obtain ⟨i, hi, e2⟩ := List.mem_iff_getElem.1 e
  rw [List.length_take] at hi
  rw [List.getElem_take] at e2
  rw [List.getD_eq_getElem?_getD, List.getElem?_eq_getElem hj, Option.getD_some] at e2
  have := (List.getElem_inj h).1 e2
  omega
theorem getD_mem {l : List Int} {j : Nat} (hj : j < l.length) : l.getD j 0 ∈ l := by
  rw [List.getD_eq_getElem?_getD, List.getElem?_eq_getElem hj]; exact List.getElem_mem _
set_option maxHeartbeats 8000000 in
theorem LookAll_walk (K_ : List Nat) (kv : Value) (kl : List Int) (v : Value) (l : List (List Int)) (w : World) (hK : KY.Ok K_) (hkn : Ints w kv kl ∧ ∀ y ∈ kl, -9223372036854775808 ≤ y ∧ y ≤ 9223372036854775807) (hv : RwsI w v l) :
    Calls Try.prog 4 #[KV K_, kv, v] w fun e w' => e = .returned (.bool true) ∧ Below w.heap.size w w' := by
  obtain ⟨hki, hkb⟩ := hkn
  obtain ⟨ka, kc, hke, _⟩ := hki.slice
  obtain ⟨va, vc, hve⟩ := hv.slice
  subst hke
  subst hve
  obtain ⟨m, hm⟩ : ∃ m, kl.length = m := ⟨_, rfl⟩
  obtain ⟨n, hn⟩ : ∃ n, l.length = n := ⟨_, rfl⟩
  have hml := hki.len
  have hnl := hv.len
  rw [hm] at hki hml ⊢
  rw [hn] at hv hnl ⊢
  unfold maxLen at hml hnl
  have HKI := Lib.hid hki
  have HKB : Hid (∀ x ∈ kl, In64 x) := hkb
  have HV := Lib.hid hv.at.2
  have HM := Lib.hid hm
  have HN := Lib.hid hn
  have HK := Lib.hid hK
  have HEND : Hid (∀ wr, w.Extends wr → (fun (e : Ending) w' => e = .returned (.bool true) ∧ Below w.heap.size w w') (.returned (.bool true)) wr) := fun wr hx => ⟨rfl, Gr.below_of hx⟩
  have HBX : Hid (∀ w1, w1 = w.alloc (.cells (KC K_) 23) → w.Extends w1 ∧ w1.rangeAt w.heap.size 0 (KC K_).toList) := fun w1 e => by
    subst e
    refine ⟨ext_alloc _ _, fun j u hu => ?_⟩
    rw [cell_of_row _ _ _ _ _ _ (heap_alloc_new _ _), Nat.zero_add]
    simpa using hu
  have HXN : Hid (∀ w1 u, Ints w1 u kl → m ≤ 20 → Calls Try.prog 7 #[KV K_, .int .i64 (-1), u] w1 (NewLOut ((Lk.new K_ (-1)).more kl) w1)) := fun w1 u hu hb => lnew_any K_ (-1) u kl w1 HK.out hu HKB.out (by rw [HM.out]; omega)
  have HL0 : Hid (m ≤ 20 → ((Lk.new K_ (-1)).more kl).known.length ≤ 20) := fun hb => by
    have := (Lk.new K_ (-1)).more_len kl
    have h0 : (Lk.new K_ (-1)).known.length = 0 := rfl
    rw [h0, HM.out] at this
    omega
  have HS0 : Hid (((Lk.new K_ (-1)).more kl).opn = [] ∧ ((Lk.new K_ (-1)).more kl).asked.length = 0 ∧ ∀ y ∈ kl, 0 ≤ y → y ∈ ((Lk.new K_ (-1)).more kl).known) := ⟨by rw [Lk.more_opn]; rfl, by rw [Lk.more_asked]; rfl, fun y hy h0 => Lk.more_knows _ kl y hy h0 (by show y ≠ -1; omega)⟩
  clear hki hkb hv hm hn hK
  generalize hPO : (fun (e : Ending) w' => e = .returned (.bool true) ∧ Below w.heap.size w w') = POST at *
  clear hPO
  go_enter Try.func4, Try.ntmps4
  go_upto_region 1 with fail
  generalize hw1 : World.alloc w _ = w1
  obtain ⟨hx1, hr1⟩ := HBX.out w1 hw1.symm
  have HX1 := Lib.hid hx1
  have HR1 := Lib.hid hr1
  clear hw1 HBX hx1 hr1
  generalize w.heap.size = s0 at *
  go_wp2_with fail
  refine (alive20_any w1).mono ?_
  rintro e w2 ⟨rfl, hx2⟩
  have HX2 := Lib.hid (Gr.ext_trans HX1.out hx2)
  have HR2 : Hid (w2.rangeAt s0 0 (KC K_).toList) := fun j u hu => hx2.cell_of (HR1.out j u hu)
  clear hx2 HR1 HX1
  obtain ⟨xk, hxk⟩ : ∃ x, KV K_ = x := ⟨_, rfl⟩
  have HXK := Lib.hid hxk
  rw [hxk] at HXN ⊢
  clear hxk
  by_cases h1 : 20 < m
  · have HE := Lib.hid (HEND.out w2 HX2.out)
    go_wp2
    exact HE.out
  by_cases h2 : 20 < n
  · have HE := Lib.hid (HEND.out w2 HX2.out)
    go_wp2
    exact HE.out
  have hmb : m ≤ 20 := by omega
  have hnb : n ≤ 20 := by omega
  have hr2 := HR2.out
  go_wp2_with (refine wpList_load_key rfl (.tmp 3) rfl s0 0 K_ HK.out.1 xk HXK.out rfl hr2 ?_)
  refine (HXN.out w2 _ (HKI.out.ext HX2.out) hmb).mono ?_
  rintro e w3 ⟨t, rfl, hx3, hl3⟩
  have HO3 : Hid (One (fun _ => False) w w3 t ((Lk.new K_ (-1)).more kl)) := One.start hl3 HX2.out hx3 (fun i hi => hi.elim)
  have HLEN0 := Lib.hid (HL0.out hmb)
  clear hx3 hl3 hr2 HR2 HX2 HXN HL0
  generalize (Lk.new K_ (-1)).more kl = sa at *
  go_wp2_with fail
  go_loopw [9] (fun s9 wr => ∃ (k : Nat) (s : Lk), k ≤ 420 ∧ s9 = .int .i64 k ∧ Hid (One (fun _ => False) w wr t s) ∧ Hid (s.opn = [] ∧ s.asked.length = k ∧ (∀ y ∈ kl, 0 ≤ y → y ∈ s.known) ∧ s.known.length ≤ 20 + 20 * min k n)) (fun s9 _ => 500 - (intOf s9).toNat)
  case atStart => exact ⟨0, sa, by omega, rfl, HO3.out, HS0.out.1, HS0.out.2.1, HS0.out.2.2, by have := HLEN0.out; omega⟩
  case round =>
    obtain ⟨k, s, hk, rfl, HONE, HST⟩ := hrel
    obtain ⟨wo, hwo⟩ : ∃ wo, wo = wr := ⟨_, rfl⟩
    subst hwo
    have hk5 : k < 500 := by omega
    have HNX := Lib.hid HONE.out.next
    go_wp2_with fail
    refine HNX.out.mono ?_
    rintro e w4 hn
    rcases hn with ⟨rfl, hl, ho, hww⟩ | ⟨p, rfl, hb, ho, _⟩
    · subst hww
      have HLF := Lib.hid hl
      clear hl ho HNX
      have HAK := Lib.hid HONE.out.asked
      go_wp2_with fail
      refine HAK.out.mono ?_
      rintro e w5 ⟨v5, rfl, hx5, hi5⟩
      have HO5 := Lib.hid (HONE.out.far hx5)
      obtain ⟨a5, c5, rfl, hc5, _⟩ := hi5.slice
      rw [HST.out.2.1] at hi5 hc5 ⊢
      have HI5 := Lib.hid hi5
      clear hx5 hi5 HAK
      go_wp2_with fail
      go_loopw [13] (fun s13 wr => ∃ j : Nat, j ≤ k ∧ s13 = .int .i64 j ∧ Hid (w5.Extends wr)) (fun s13 _ => k - (intOf s13).toNat)
      case atStart => exact ⟨0, by omega, rfl, Gr.ext_refl _⟩
      case round =>
        obtain ⟨j, hj, rfl, HXJ⟩ := hrel
        by_cases h3 : j < k
        · obtain ⟨b1, o1, rfl, hb1, hc1⟩ := HI5.out.cell.2 (by omega)
          have hjl : j < s.asked.length := by rw [HST.out.2.1]; exact h3
          have HND : Hid (s.asked.getD j 0 ∉ s.asked.take j) := nodup_take HONE.out.inv.1.once hjl
          have hpos := (HONE.out.inv.1.range _ (HONE.out.inv.1.sub _ (getD_mem hjl))).1
          have HC : Hid (∀ w', wr.Extends w' → w'.cell? ⟨b1, o1 + j, none⟩ = some (.int .i64 (s.asked.getD j 0))) := fun w' hx => hx.cell_of (HXJ.out.cell_of (hc1 j h3))
          have hcut : ∀ w' : World, (Instr.slice 24 (.slice (some ⟨b1, o1, none⟩) k c5) none (some (.int .i64 (j : Nat))) none).run Try.prog w' = .ok (.slice (some ⟨b1, o1, none⟩) j c5) w' := fun w' => by
            rw [cuti_to _ _ c5 j (by omega) w']
            split <;> simp [Addr.add_mid]
          have HTK : Hid (∀ w', wr.Extends w' → Ints w' (.slice (some ⟨b1, o1, none⟩) j c5) (s.asked.take j)) := fun w' hx => (HI5.out.cut (m := j) (by omega)).ext (Gr.ext_trans HXJ.out hx)
          generalize s.asked.getD j 0 = y at *
          have h4 : decide (y < 0) = false := by rw [decide_eq_false_iff_not]; omega
          clear hc1 hb1 hjl hpos
          go_wp2_with fail
          refine Gr.region 13 [(false,0),(false,1),(false,2),(false,3),(false,4),(false,5),(false,6),(false,7),(false,8),(false,9),(false,10),(false,11),(false,12)] (by kernel_rfl) (by kernel_rfl) (fun d _ _ _ _ h => by cases d <;> exact h) ?_
          simp only [Gr.pick, List.getElem?_cons_zero, List.getElem?_cons_succ, List.drop_succ_cons, List.drop_zero]
          generalize hwd : wr.drew = wd at *
          have HXD : Hid (wr.Extends wd) := by rw [← hwd]; exact Gr.ext_drew (Gr.ext_refl _)
          clear hwd
          iterate 3
            refine Gr.walk_t ?_ (Or.inl ⟨by rfl, ?_⟩) ?_
            rotate_left
            · intro w' hw'
              clear hw'
              go_simp
              try with_reducible rfl
            simp only [Act.put, List.setIfInBounds_toArray, List.set_cons_zero, List.set_cons_succ]
          refine Gr.walk_t ?_ (Or.inl ⟨by rfl, ?_⟩) ?_
          rotate_left
          · intro w' hw'
            have hc := HC.out w' (Gr.ext_trans HXD.out hw')
            clear hw'
            go_simp
            try with_reducible rfl
          simp only [Act.put, List.setIfInBounds_toArray, List.set_cons_zero, List.set_cons_succ]
          iterate 8
            refine Gr.walk_t ?_ (Or.inl ⟨by rfl, ?_⟩) ?_
            rotate_left
            · intro w' hw'
              clear hw'
              go_simp
              try with_reducible rfl
            simp only [Act.put, List.setIfInBounds_toArray, List.set_cons_zero, List.set_cons_succ]
          refine Gr.walk_t ?_ (Or.inl ⟨by rfl, ?_⟩) ?_
          rotate_left
          · intro w' hw'
            have hc := HC.out w' (Gr.ext_trans HXD.out hw')
            clear hw'
            go_simp
            try with_reducible rfl
          simp only [Act.put, List.setIfInBounds_toArray, List.set_cons_zero, List.set_cons_succ]
          refine Gr.walk_nil ?_
          have HH := Lib.hid (has_any _ _ y wd (HTK.out wd HXD.out))
          rw [decide_eq_false HND.out] at HH
          have HXE := Lib.hid (Gr.ext_trans HXJ.out HXD.out)
          clear HTK HC hcut HXD
          go_wp2_with fail
          refine HH.out.mono ?_
          rintro e w6 ⟨rfl, rfl⟩
          go_wp2
          go_roundw
          case rel => exact ⟨j + 1, by omega, by go_num, HXE.out⟩
          case measure => simp [intOf]; omega
        · obtain rfl : j = k := by omega
          obtain ⟨wp, hwp⟩ : ∃ wp, wp = wr := ⟨_, rfl⟩
          subst hwp
          have HI6 := Lib.hid (HI5.out.ext HXJ.out)
          have HO6 := Lib.hid (HO5.out.far HXJ.out)
          have HK6 := Lib.hid (HKI.out.ext HO6.out.ext)
          have HALL : Hid (∀ y ∈ kl, 0 ≤ y → y ∈ s.asked) := fun y hy h0 => Lk.Left0.all HLF.out y (HST.out.2.2.1 y hy h0)
          have HKC := Lib.hid HK6.out.cell.2
          clear HI5 HO5
          go_wp2_with fail
          go_loopw [14] (fun s14 wr => ∃ i : Nat, i ≤ m ∧ s14 = .int .i64 i ∧ wr = wp) (fun s14 _ => m - (intOf s14).toNat)
          case atStart => exact ⟨0, by omega, rfl, rfl⟩
          case round =>
            obtain ⟨i, hi, rfl, rfl⟩ := hrel
            by_cases h5 : i < m
            · obtain ⟨b2, o2, rfl, hb2, hc2⟩ := HKC.out (by omega)
              have hc := hc2 i h5
              have HMEM : Hid (kl.getD i 0 ∈ kl) := getD_mem (by rw [HM.out]; exact h5)
              generalize kl.getD i 0 = y at *
              clear hc2 hb2
              by_cases h6 : y < 0
              · go_wp2
                go_roundw
                case rel => exact ⟨i + 1, by omega, by go_num, trivial⟩
                case measure => simp [intOf]; omega
              · have HH := Lib.hid (has_any _ _ y wr HI6.out)
                rw [decide_eq_true (HALL.out y HMEM.out (by omega))] at HH
                go_wp2_with fail
                refine HH.out.mono ?_
                rintro e w7 ⟨rfl, rfl⟩
                go_wp2
                go_roundw
                case rel => exact ⟨i + 1, by omega, by go_num, trivial⟩
                case measure => simp [intOf]; omega
            · obtain rfl : i = m := by omega
              have HDN := Lib.hid HO6.out.done
              rw [HLF.out.done HONE.out.inv.1 HST.out.1] at HDN
              have HE := Lib.hid (HEND.out wr HO6.out.ext)
              have h7 : ((j : Int) == (j : Int)) = true := by simp
              clear HO6 HI6 HK6 HALL HKC HONE HST HLF
              go_wp2_with fail
              refine HDN.out.mono ?_
              rintro e w8 ⟨rfl, rfl⟩
              go_wp2
              exact HE.out
    · have HO4 := Lib.hid ho
      have HB := Lib.hid hb
      have HPI : Hid (In64 p) := by
        have := HONE.out.inv.1.range p hb.mem.1
        show _ ∧ _
        omega
      have HASK : Hid (s.asked.length + 1 ≤ 420) := by
        have h1 := (HONE.out.inv.1.asks hb.mem.1 hb.mem.2).most
        have h2 : (s.asks p).asked.length = s.asked.length + 1 := by unfold Lk.asks; simp
        have h3 : (s.asks p).known = s.known := rfl
        rw [h2, h3] at h1
        have h4 := HST.out.2.2.2
        show _ ≤ _
        omega
      have hk4 : k + 1 ≤ 420 := by have := HASK.out; have := HST.out.2.1; omega
      clear ho hb HNX
      by_cases h3 : k < n
      · obtain ⟨b1, o1, rfl, hb1, hc⟩ := HV.out (by omega)
        obtain ⟨a2, c2, p0, hai, hab⟩ := hc k h3
        clear hc hb1
        generalize l.getD k [] = bs at *
        obtain ⟨bl, hbl⟩ : ∃ bl, bs.length = bl := ⟨_, rfl⟩
        rw [hbl] at p0 hai
        have q0 := HO4.out.ext.cell_of p0
        have hlb := hai.len
        rw [hbl] at hlb
        unfold maxLen at hlb
        have HAI := Lib.hid hai
        have HAB : Hid (∀ x ∈ bs, In64 x) := hab
        have HBL := Lib.hid hbl
        clear p0 hai hab hbl
        by_cases h4 : 20 < bl
        · have HE := Lib.hid (HEND.out w4 HO4.out.ext)
          go_wp2
          exact HE.out
        · have HHR := Lib.hid (HO4.out.heard (p := p) HPI.out (HAI.out.ext HO4.out.ext) HAB.out (by
            have h1 := HST.out.2.2.2
            have h2 := HBL.out
            show s.known.length + bs.length ≤ 8000
            omega) (HAI.out.old.imp id fun h g hg => .inl (h g hg)))
          have HNEW : Hid (((s.asks p).heard p bs).opn = [] ∧ ((s.asks p).heard p bs).asked.length = k + 1 ∧ (∀ y ∈ kl, 0 ≤ y → y ∈ ((s.asks p).heard p bs).known) ∧ ((s.asks p).heard p bs).known.length ≤ 20 + 20 * min (k + 1) n) := by
            obtain ⟨z1, z2, z3, z4⟩ := HST.out
            rw [Lk.heard_asks z1]
            refine ⟨by rw [Lk.more_opn]; exact z1, by rw [Lk.more_asked]; show (s.asked ++ [p]).length = k + 1; rw [List.length_append, z2]; rfl, fun y hy h0 => Lk.known_more _ bs y (z3 y hy h0), ?_⟩
            have h1 := Lk.more_len { s with asked := s.asked ++ [p] } bs
            have h2 := HBL.out
            have h3' : ({ s with asked := s.asked ++ [p] } : Lk).known.length = s.known.length := rfl
            omega
          generalize (s.asks p).heard p bs = s2 at *
          clear HONE HB HST HASK HPI HAB
          go_wp2_with fail
          refine HHR.out.mono ?_
          rintro e w5 ⟨rfl, ho5, _⟩
          have HO5 := Lib.hid ho5
          clear ho5 HHR HO4 q0
          go_wp2
          go_roundw
          case rel => exact ⟨k + 1, s2, hk4, by go_num, HO5.out, HNEW.out⟩
          case measure => simp [intOf]; omega
      · have HHR := Lib.hid (HO4.out.lost (p := p) HPI.out)
        have HNEW : Hid (((s.asks p).over p).opn = [] ∧ ((s.asks p).over p).asked.length = k + 1 ∧ (∀ y ∈ kl, 0 ≤ y → y ∈ ((s.asks p).over p).known) ∧ ((s.asks p).over p).known.length ≤ 20 + 20 * min (k + 1) n) := by
          obtain ⟨z1, z2, z3, z4⟩ := HST.out
          rw [Lk.over_asks z1]
          refine ⟨z1, by show (s.asked ++ [p]).length = k + 1; rw [List.length_append, z2]; rfl, z3, ?_⟩
          show s.known.length ≤ _
          omega
        generalize (s.asks p).over p = s2 at *
        clear HONE HB HST HASK HPI
        go_wp2_with fail
        refine HHR.out.mono ?_
        rintro e w5 ⟨rfl, ho5, _⟩
        have HO5 := Lib.hid ho5
        clear ho5 HHR HO4
        go_wp2
        go_roundw
        case rel => exact ⟨k + 1, s2, hk4, by go_num, HO5.out, HNEW.out⟩
        case measure => simp [intOf]; omega
end Go.Proofs.Ytgjnkfbckbkcnaa
namespace Go.Proofs.Ytgjnkfbckbkcnaa
set_option maxRecDepth 20000
open Go.RowKit Go.Deep
set_option linter.unusedVariables false
/-- 1, 2, .. -/
def numsTo (n : Nat) : List Int := (List.range n).map fun i : Nat => (i : Int) + 1
theorem numsTo_length (n : Nat) : (numsTo n).length = n := by simp [numsTo]
theorem numsTo_succ (n : Nat) : numsTo (n + 1) = numsTo n ++ [(n : Int) + 1] := by simp [numsTo, List.range_succ]
theorem mem_numsTo {n : Nat} {x : Int} (h : x ∈ numsTo n) : 1 ≤ x ∧ x ≤ n := by
  obtain ⟨i, hi, rfl⟩ := List.mem_map.1 h
  rw [List.mem_range] at hi
  omega
theorem numsTo_nodup (n : Nat) : (numsTo n).Nodup := by
  induction n with
  | zero => exact List.nodup_nil
  | succ n ih =>
    rw [numsTo_succ]
    exact Lk.snoc_nodup ih fun e => by have := mem_numsTo e; omega
namespace Lk
theorem more_fresh : ∀ (m : List Int) (s : Lk), (s.known ++ m).Nodup → (∀ x ∈ m, 0 ≤ x ∧ x ≠ s.self) → s.more m = { s with known := s.known ++ m }
  | [], s, _, _ => by show s = _; rw [List.append_nil]
  | a :: r, s, hn, h0 => by
    have ha : s.add a = { s with known := s.known ++ [a] } := by
      unfold add
      rw [if_neg]
      rintro (h | h | h)
      · have := (h0 a (by simp)).1; omega
      · exact (h0 a (by simp)).2 h
      · rw [List.nodup_append] at hn
        exact hn.2.2 a h a (by simp) rfl
    show (s.add a).more r = _
    rw [ha, more_fresh r { s with known := s.known ++ [a] } (by simpa using hn) (fun x hx => h0 x (by simp [hx]))]
    simp
theorem more_old : ∀ (m : List Int) (s : Lk), (∀ x ∈ m, x < 0 ∨ x = s.self ∨ x ∈ s.known) → s.more m = s
  | [], s, _ => rfl
  | a :: r, s, h => by
    have ha : s.add a = s := by unfold add; rw [if_pos (h a (by simp))]
    show (s.add a).more r = _
    rw [ha]
    exact more_old r s fun x hx => h x (by simp [hx])
theorem out_drop {A : List Int} (h : A.Nodup) {j : Nat} (hj : j < A.length) : outI (A.getD j 0) (A.drop j) = A.drop (j + 1) := by
  have e : A.drop j = A.getD j 0 :: A.drop (j + 1) := by
    rw [List.getD_eq_getElem?_getD, List.getElem?_eq_getElem hj, Option.getD_some]
    exact List.drop_eq_getElem_cons hj
  have hn : (A.drop j).Nodup := h.sublist (List.drop_sublist j A)
  rw [e] at hn
  rw [List.nodup_cons] at hn
  have h2 := outI_not hn.1
  rw [e]
  unfold outI at h2 ⊢
  rw [List.filter_cons, if_neg (by simp)]
  exact h2
/-- A look of which those of A were asked and the ones behind j are open. -/
def at_ (k : List Nat) (L A : List Int) (j : Nat) : Lk := ⟨k, 0, L, A, A.drop j⟩
theorem at_lost {k : List Nat} {L A : List Int} {j : Nat} (h : A.Nodup) (hj : j < A.length) : (at_ k L A j).over (A.getD j 0) = at_ k L A (j + 1) := by
  unfold over at_
  simp only
  rw [out_drop h hj]
theorem at_heard {k : List Nat} {L A : List Int} {j : Nat} (h : A.Nodup) (hj : j < A.length) {m : List Int} (hm : ∀ x ∈ m, x < 0 ∨ x = 0 ∨ x ∈ L) : (at_ k L A j).heard (A.getD j 0) m = at_ k L A (j + 1) := by
  have hmem : A.getD j 0 ∈ (at_ k L A j).opn := by
    show _ ∈ A.drop j
    have e : A.drop j = A.getD j 0 :: A.drop (j + 1) := by
      rw [List.getD_eq_getElem?_getD, List.getElem?_eq_getElem hj, Option.getD_some]
      exact List.drop_eq_getElem_cons hj
    rw [e]; simp
  unfold heard
  rw [if_pos hmem, at_lost h hj]
  exact more_old m _ hm
theorem at_open {k : List Nat} {L A : List Int} {j : Nat} (hj : j < A.length) : (at_ k L A j).done = false := by
  unfold done at_
  have : ¬ (A.drop j).length = 0 := by rw [List.length_drop]; omega
  simp only [decide_eq_false this, Bool.false_and]
theorem at_done {k : List Nat} {L A : List Int} {j : Nat} (hj : A.length ≤ j) (hl : A.length = L.length) : (at_ k L A j).done = true := by
  unfold done at_
  have h1 : (A.drop j).length = 0 := by rw [List.length_drop]; omega
  simp only [decide_eq_true h1, decide_eq_true hl, Bool.and_self]
theorem at_asks {k : List Nat} {L A : List Int} {p : Int} : (at_ k L A 0).asks p = at_ k L (A ++ [p]) 0 := rfl
/-- While fewer were asked than are known, somebody is left. -/
theorem at_left {k : List Nat} {L A : List Int} {j : Nat} (hi : (at_ k L A j).Inv) (h : A.length < L.length) (hl : (at_ k L A j).Left0 (at_ k L A j).known.length) : False := by
  have hall : ∀ y ∈ L, y ∈ A := fun y hy => by
    obtain ⟨i, hi, e⟩ := List.mem_iff_getElem.1 hy
    exact hl i y hi (by show L[i]? = _; rw [List.getElem?_eq_getElem hi, e])
  have := nodup_le hi.nodup hall
  have h2 : (at_ k L A j).known.length = L.length := rfl
  omega
theorem at_full {k : List Nat} {L A : List Int} {j : Nat} {p : Int} (hi : (at_ k L A j).Inv) (h : A.length = L.length) (hb : (at_ k L A j).Best (at_ k L A j).known.length p) : False := by
  have h1 := (hi.asks hb.mem.1 hb.mem.2).most
  have h2 : ((at_ k L A j).asks p).asked.length = A.length + 1 := by unfold asks at_; simp
  have h3 : ((at_ k L A j).asks p).known.length = L.length := rfl
  omega
end Lk
end Go.Proofs.Ytgjnkfbckbkcnaa
namespace Go.Proofs.Ytgjnkfbckbkcnaa
set_option maxRecDepth 20000
open Go.RowKit Go.Deep
set_option linter.unusedVariables false
theorem ints_three (w : World) (x y z : Int) (T : TypeId) : Ints (w.alloc (.cells #[.int .i64 x, .int .i64 y, .int .i64 z] T)) (.slice (some ⟨w.heap.size, 0, none⟩) 3 3) [x, y, z] := by
  refine .inr ⟨w.heap.size, 0, 3, rfl, by simp, by decide, by simp, fun k hk => ?_⟩
  have hk' : k < 3 := by simpa using hk
  rw [cell_of_row _ _ _ _ _ _ (heap_alloc_new w (.cells #[.int .i64 x, .int .i64 y, .int .i64 z] T))]
  match k, hk' with
  | 0, _ => rfl
  | 1, _ => rfl
  | 2, _ => rfl
set_option maxHeartbeats 8000000 in
theorem LookOpen_walk (K_ : List Nat) (nn early : Int) (w : World) (hK : KY.Ok K_) (hnn : (Lit.int .i64 nn).wf = true) (hea : (Lit.int .i64 early).wf = true) :
    Calls Try.prog 5 #[KV K_, .int .i64 nn, .int .i64 early] w fun e w' => e = .returned (.bool true) ∧ Below w.heap.size w w' := by
  have hn64 := int_wf hnn
  have he64 := int_wf hea
  have HK := Lib.hid hK
  have HEND : Hid (∀ wr, w.Extends wr → (fun (e : Ending) w' => e = .returned (.bool true) ∧ Below w.heap.size w w') (.returned (.bool true)) wr) := fun wr hx => ⟨rfl, Gr.below_of hx⟩
  have HBX : Hid (∀ w1, w1 = w.alloc (.cells (KC K_) 23) → w.Extends w1 ∧ w1.rangeAt w.heap.size 0 (KC K_).toList) := fun w1 e => by
    subst e
    refine ⟨ext_alloc _ _, fun j u hu => ?_⟩
    rw [cell_of_row _ _ _ _ _ _ (heap_alloc_new _ _), Nat.zero_add]
    simpa using hu
  have HXN : Hid (∀ n w1 u, Ints w1 u (numsTo n) → n ≤ 20 → Calls Try.prog 7 #[KV K_, .int .i64 0, u] w1 (NewLOut (Lk.at_ K_ (numsTo n) [] 0) w1)) := fun n w1 u hu hb => by
    have := lnew_any K_ 0 u (numsTo n) w1 HK.out hu (fun x hx => by have := mem_numsTo hx; omega) (by rw [numsTo_length]; omega)
    rw [Lk.more_fresh (numsTo n) (Lk.new K_ 0) (numsTo_nodup n) (fun x hx => by have := mem_numsTo hx; show 0 ≤ x ∧ x ≠ 0; omega)] at this
    exact this
  clear hK hnn hea
  generalize hPO : (fun (e : Ending) w' => e = .returned (.bool true) ∧ Below w.heap.size w w') = POST at *
  clear hPO
  go_enter Try.func5, Try.ntmps5
  go_upto_region 1 with fail
  generalize hw1 : World.alloc w _ = w1
  obtain ⟨hx1, hr1⟩ := HBX.out w1 hw1.symm
  have HX1 := Lib.hid hx1
  have HR1 := Lib.hid hr1
  clear hw1 HBX hx1 hr1
  obtain ⟨s0, hs0⟩ : ∃ s, w.heap.size = s := ⟨_, rfl⟩
  rw [hs0] at HR1 ⊢
  have HS0 := Lib.hid hs0
  clear hs0
  go_wp2_with fail
  refine (alive20_any w1).mono ?_
  rintro e w2 ⟨rfl, hx2⟩
  have HX2 := Lib.hid (Gr.ext_trans HX1.out hx2)
  have HR2 : Hid (w2.rangeAt s0 0 (KC K_).toList) := fun j u hu => hx2.cell_of (HR1.out j u hu)
  clear hx2 HR1 HX1
  obtain ⟨xk, hxk⟩ : ∃ x, KV K_ = x := ⟨_, rfl⟩
  have HXK := Lib.hid hxk
  rw [hxk] at HXN ⊢
  clear hxk
  by_cases h1 : nn < 1
  · have HE := Lib.hid (HEND.out w2 HX2.out)
    go_wp2
    exact HE.out
  by_cases h2 : 20 < nn
  · have HE := Lib.hid (HEND.out w2 HX2.out)
    go_wp2
    exact HE.out
  by_cases h3 : early < 0
  · have HE := Lib.hid (HEND.out w2 HX2.out)
    go_wp2
    exact HE.out
  obtain ⟨n, rfl⟩ : ∃ n : Nat, nn = (n : Int) := ⟨nn.toNat, by omega⟩
  have hn1 : 1 ≤ n := by omega
  have hn2 : n ≤ 20 := by omega
  clear h1 h2 hn64
  go_wp2_with fail
  go_loopw [8, 9] (fun s8 s9 wr => ∃ k : Nat, k ≤ n ∧ s9 = .int .i64 k ∧ Hid (w2.Extends wr) ∧ Hid (OwnI wr w2.heap.size s8 (numsTo k))) (fun _ s9 _ => n - (intOf s9).toNat)
  case atStart => exact ⟨0, by omega, rfl, Gr.ext_refl _, OwnI.nil _ _⟩
  case round =>
    obtain ⟨k, hk, rfl, HX, HO⟩ := hrel
    by_cases h4 : k < n
    · have HIX : Hid (∀ w1, w1 = wr.alloc (.cells #[.int .i64 ((k : Int) + 1)] 3) → wr.Extends w1 ∧ Src Try.prog 1 24 (.slice (some ⟨wr.heap.size, 0, none⟩) 1 1) 1 (i64vs [(k : Int) + 1]) w1) := fun w1 e => by
        subst e
        exact ⟨ext_alloc _ _, one_src (heap_alloc_new _ _)⟩
      have HNS := Lib.hid (numsTo_succ k)
      have HNL : Hid ((numsTo k).length = k) := numsTo_length k
      go_wp2_with (at_builtin; refine wpList_app_ints3 rfl (.tmp 39) (.tmp 42) rfl w2.heap.size _ (numsTo k) rfl (HO.out.ext (HIX.out _ rfl).1) _ 1 [(k : Int) + 1] rfl rfl (HIX.out _ rfl).2 (by have := HNL.out; show (numsTo k).length + 1 ≤ 10000; omega) (Nat.le_trans HX.out.size (HIX.out _ rfl).1.size) ?_)
      intro v' w3 ho2 hg2 loc
      have HX2' : Hid (w2.Extends w3) := Gr.ext_of ((Gr.below_of (Gr.ext_trans HX.out (HIX.out _ rfl).1)).grown hg2 (Nat.le_trans HX.out.size (HIX.out _ rfl).1.size) (fun q hq => (HO.out.lt q hq).1))
      have HO2 : Hid (OwnI w3 w2.heap.size v' (numsTo (k + 1))) := by rw [HNS.out]; exact ho2
      clear ho2 hg2 loc HIX HO HNS HNL
      go_wp2
      go_roundw
      case rel => exact ⟨k + 1, by omega, by go_num, HX2'.out, HO2.out⟩
      case measure => simp [intOf]; omega
    · obtain rfl : k = n := by omega
      obtain ⟨wo, hwo⟩ : ∃ wo, wo = wr := ⟨_, rfl⟩
      subst hwo
      have HR3 : Hid (wo.rangeAt s0 0 (KC K_).toList) := fun j u hu => HX.out.cell_of (HR2.out j u hu)
      have HX3 := Lib.hid (Gr.ext_trans HX2.out HX.out)
      have hr3 := HR3.out
      have HIN := Lib.hid HO.out.ints
      clear HR2 HX2 HX HO HR3
      go_wp2_with (refine wpList_load_key rfl (.tmp 3) rfl s0 0 K_ HK.out.1 xk HXK.out rfl hr3 ?_)
      refine (HXN.out k wo _ HIN.out hn2).mono ?_
      rintro e w4 ⟨t, rfl, hx4, hl4⟩
      have HO4 : Hid (One (fun _ => False) w w4 t (Lk.at_ K_ (numsTo k) [] 0)) := One.start hl4 HX3.out hx4 (fun i hi => hi.elim)
      clear hx4 hl4 hr3 HIN HX3 HXN
      have hk0 : (k : Int) ≠ 0 := by omega
      have HSAME : Hid (∀ p m, (Lk.at_ K_ (numsTo k) [] 0).heard p m = Lk.at_ K_ (numsTo k) [] 0) := fun p m => by
        unfold Lk.heard
        rw [if_neg (by show p ∉ ([] : List Int); simp)]
      have HLL : Hid ((Lk.at_ K_ (numsTo k) [] 0).known.length + 1 ≤ 8000) := by
        show (numsTo k).length + 1 ≤ 8000
        rw [numsTo_length]; omega
      have H99 : Hid (∀ x ∈ ([99] : List Int), In64 x) := fun x hx => by rw [List.mem_singleton.1 hx]; decide
      have H98 : Hid (∀ x ∈ ([98] : List Int), In64 x) := fun x hx => by rw [List.mem_singleton.1 hx]; decide
      have HCALL : Hid (∀ (wa wb : World) (x p : Int), One (fun _ => False) w wa t (Lk.at_ K_ (numsTo k) [] 0) → wb = wa.alloc (.cells #[.int .i64 x] 3) → In64 x → In64 p → Calls Try.prog 11 #[.pointer (some ⟨t, 0, none⟩), .int .i64 p, .slice (some ⟨wa.heap.size, 0, none⟩) 1 1] wb fun e w1 => e = .returned (.tuple #[]) ∧ One (fun _ => False) w w1 t (Lk.at_ K_ (numsTo k) [] 0)) := fun wa wb x p ho hw hx hp => by
        refine ((ho.box hw).heard (m := [x]) hp (by rw [hw]; exact ints_one wa x _) (fun y hy => by rw [List.mem_singleton.1 hy]; exact hx) HLL.out (.inr fun g hg => .inr (.inr (by cases hg; rfl)))).mono fun e w1 ⟨he, ho, _⟩ => ⟨he, ?_⟩
        rw [HSAME.out] at ho
        exact ho.sub fun i hi => .inl hi
      go_wp2_with fail
      have HP1 : Hid (In64 (wrap64 (1 + early % (k : Int)))) := int_wf (wrap64_wf _)
      generalize wrap64 (1 + early % (k : Int)) = p1 at *
      generalize hwa : World.alloc w4 _ = wa
      refine (HCALL.out w4 wa 99 p1 HO4.out hwa.symm (by decide) HP1.out).mono ?_
      rintro e w5 ⟨rfl, ho5⟩
      have HO5 := Lib.hid ho5
      clear ho5 hwa HO4 HP1 H99 H98
      go_wp2_with fail
      generalize hwa : World.alloc w5 _ = wa
      refine (HCALL.out w5 wa 98 500 HO5.out hwa.symm (by decide) (by decide)).mono ?_
      rintro e w6 ⟨rfl, ho6⟩
      have HO6 := Lib.hid ho6
      clear ho6 hwa HO5 HCALL HLL HSAME
      go_wp2_with fail
      have HNL : Hid ((numsTo k).length = k) := numsTo_length k
      go_loopw [11, 12] (fun s11 s12 wr => ∃ (j : Nat) (A : List Int), j ≤ k ∧ s12 = .int .i64 j ∧ Hid (A.length = j) ∧ Hid (One (fun i => s11.ownBlock = some i) w wr t (Lk.at_ K_ (numsTo k) A 0)) ∧ Hid (OwnI wr w.heap.size s11 A)) (fun _ s12 _ => k - (intOf s12).toNat)
      case atStart => exact ⟨0, [], by omega, rfl, rfl, HO6.out.sub (fun i hi => by cases hi), OwnI.nil _ _⟩
      case round =>
        obtain ⟨j, A, hj, rfl, HAL, HON, HOW⟩ := hrel
        obtain ⟨wp, hwp⟩ : ∃ wp, wp = wr := ⟨_, rfl⟩
        subst hwp
        have HNX := Lib.hid HON.out.next
        by_cases h5 : j < k
        · go_wp2_with fail
          refine HNX.out.mono ?_
          rintro e w7 hn
          rcases hn with ⟨_, hl, _⟩ | ⟨p, rfl, hb, ho, hkp⟩
          · exact (Lk.at_left HON.out.inv.1 (by rw [HAL.out, HNL.out]; exact h5) hl).elim
          · rw [Lk.at_asks] at ho
            have HO7 := Lib.hid ho
            have HW7 : Hid (OwnI w7 w.heap.size u11 A) := HOW.out.kept fun g e => hkp g e
            have HDN := Lib.hid ho.done
            rw [Lk.at_open (by rw [List.length_append]; simp)] at HDN
            have HA2 : Hid ((A ++ [p]).length = j + 1) := by
              show _ = _
              rw [List.length_append, HAL.out]; rfl
            clear ho hkp hb HNX HON HOW
            go_wp2_with fail
            refine HDN.out.mono ?_
            rintro e w8 ⟨rfl, rfl⟩
            clear HDN
            have HIX : Hid (∀ w1, w1 = w7.alloc (.cells #[.int .i64 p] 3) → w7.Extends w1 ∧ Src Try.prog 1 24 (.slice (some ⟨w7.heap.size, 0, none⟩) 1 1) 1 (i64vs [p]) w1) := fun w1 e => by
              subst e
              exact ⟨ext_alloc _ _, one_src (heap_alloc_new _ _)⟩
            go_wp2_with (at_builtin; refine wpList_app_ints3 rfl (.tmp 75) (.tmp 77) rfl w.heap.size _ A rfl (HW7.out.ext (HIX.out _ rfl).1) _ 1 [p] rfl rfl (HIX.out _ rfl).2 (by rw [HAL.out]; show j + 1 ≤ 10000; omega) (Nat.le_trans HO7.out.ext.size (HIX.out _ rfl).1.size) ?_)
            intro v' w9 ho9 hg9 loc
            have HO9 : Hid (One (fun i => v'.ownBlock = some i) w w9 t (Lk.at_ K_ (numsTo k) (A ++ [p]) 0)) := (HO7.out.far (HIX.out _ rfl).1).wrote hg9 (fun g e => ⟨e, (HW7.out.lt g e).1⟩) (by simpa using loc) (fun g e => (ho9.lt g e).2)
            have HW9 := Lib.hid ho9
            clear ho9 hg9 loc HIX HW7 HO7
            go_wp2
            go_roundw
            case rel => exact ⟨j + 1, A ++ [p], by omega, by go_num, HA2.out, HO9.out, HW9.out⟩
            case measure => simp [intOf]; omega
        · obtain rfl : j = k := by omega
          go_wp2_with fail
          refine HNX.out.mono ?_
          rintro e w7 hn
          rcases hn with ⟨rfl, _, ho, hww⟩ | ⟨p, _, hb, _, _⟩
          · subst hww
            clear ho HNX
            obtain ⟨av, hav⟩ : ∃ av, av = u11 := ⟨_, rfl⟩
            subst hav
            obtain ⟨aa, ac, hae⟩ := HOW.out.slice
            rw [HAL.out] at hae
            subst hae
            have hnd := HON.out.inv.1.once
            have HND : Hid A.Nodup := hnd
            have HRNG : Hid (∀ y ∈ A, 0 ≤ y ∧ y ≤ 9223372036854775807 ∧ y ∈ numsTo j) := fun y hy => by
              have h1 : y ∈ numsTo j := HON.out.inv.1.sub y hy
              have h2 := HON.out.inv.1.range y h1
              exact ⟨h2.1, h2.2, h1⟩
            clear hnd
            go_wp2_with fail
            go_loopw [17] (fun s17 wr => ∃ i : Nat, i ≤ j ∧ s17 = .int .i64 i ∧ Hid (One (fun g => (Value.slice aa j ac).ownBlock = some g) w wr t (Lk.at_ K_ (numsTo j) A i)) ∧ Hid (OwnI wr w.heap.size (.slice aa j ac) A)) (fun s17 _ => j - (intOf s17).toNat)
            case atStart => exact ⟨0, by omega, rfl, HON.out, HOW.out⟩
            case round =>
              obtain ⟨i, hi, rfl, HON3, HOW3⟩ := hrel
              have HDN := Lib.hid HON3.out.done
              by_cases h6 : i < j
              · rw [Lk.at_open (by rw [HAL.out]; exact h6)] at HDN
                go_wp2_with fail
                refine HDN.out.mono ?_
                rintro e w8 ⟨rfl, rfl⟩
                clear HDN
                obtain ⟨b1, o1, rfl, hb1, hc1⟩ := HOW3.out.ints.cell.2 (by omega)
                have HCI : Hid (∀ w', wr.Extends w' → w'.cell? ⟨b1, o1 + i, none⟩ = some (.int .i64 (A.getD i 0))) := fun w' hx => hx.cell_of (hc1 i h6)
                have HC0 : Hid (∀ w', wr.Extends w' → w'.cell? ⟨b1, o1, none⟩ = some (.int .i64 (A.getD 0 0))) := fun w' hx => hx.cell_of (by have := hc1 0 (by omega); rwa [Nat.add_zero] at this)
                have hil : i < A.length := by rw [HAL.out]; exact h6
                have HI64 : Hid (In64 (A.getD i 0)) := by
                  have := HRNG.out (A.getD i 0) (by rw [List.getD_eq_getElem?_getD, List.getElem?_eq_getElem hil]; exact List.getElem_mem _)
                  show _ ∧ _
                  omega
                have HM0 : Hid (A.getD 0 0 ∈ numsTo j ∧ In64 (A.getD 0 0)) := by
                  have := HRNG.out (A.getD 0 0) (by rw [List.getD_eq_getElem?_getD, List.getElem?_eq_getElem (by omega)]; exact List.getElem_mem _)
                  exact ⟨this.2.2, by omega⟩
                have HHR : Hid (∀ wa wb, wr.Extends wa → wb = World.alloc wa (.cells #[.int .i64 0, .int .i64 (-4), .int .i64 (A.getD 0 0)] 3) → Calls Try.prog 11 #[.pointer (some ⟨t, 0, none⟩), .int .i64 (A.getD i 0), .slice (some ⟨wa.heap.size, 0, none⟩) 3 3] wb fun e w1 => e = .returned (.tuple #[]) ∧ One (fun g => (Value.slice (some ⟨b1, o1, none⟩) j ac).ownBlock = some g) w w1 t (Lk.at_ K_ (numsTo j) A (i + 1)) ∧ OwnI w1 w.heap.size (.slice (some ⟨b1, o1, none⟩) j ac) A) := fun wa wb hx hw => by
                  have ho := (HON3.out.far hx).box hw
                  have hxb : wr.Extends wb := by rw [hw]; exact Gr.ext_trans hx (ext_alloc _ _)
                  refine (ho.heard (m := [0, -4, A.getD 0 0]) HI64.out (by rw [hw]; exact ints_three wa _ _ _ _) (fun y hy => ?_) (by show (numsTo j).length + 3 ≤ 8000; rw [numsTo_length]; omega) (.inr fun g hg => .inr (.inr (by cases hg; rfl)))).mono fun e w1 ⟨he, ho2, hkp⟩ => ⟨he, ?_, ?_⟩
                  · rcases List.mem_cons.1 hy with rfl | hy
                    · decide
                    · rcases List.mem_cons.1 hy with rfl | hy
                      · decide
                      · rw [List.mem_singleton.1 hy]; exact HM0.out.2
                  · rw [Lk.at_heard HND.out hil (fun y hy => by
                      rcases List.mem_cons.1 hy with rfl | hy
                      · exact .inr (.inl rfl)
                      · rcases List.mem_cons.1 hy with rfl | hy
                        · exact .inl (by decide)
                        · rw [List.mem_singleton.1 hy]; exact .inr (.inr HM0.out.1))] at ho2
                    exact ho2.sub fun i hi => .inl hi
                  · exact (HOW3.out.ext hxb).kept fun g hg => hkp g (.inl hg)
                have HLR : Hid (Calls Try.prog 13 #[.pointer (some ⟨t, 0, none⟩), .int .i64 (A.getD i 0)] wr fun e w1 => e = .returned (.tuple #[]) ∧ One (fun g => (Value.slice (some ⟨b1, o1, none⟩) j ac).ownBlock = some g) w w1 t (Lk.at_ K_ (numsTo j) A (i + 1)) ∧ OwnI w1 w.heap.size (.slice (some ⟨b1, o1, none⟩) j ac) A) :=
                  (HON3.out.lost (p := A.getD i 0) HI64.out).mono fun e w1 ⟨he, ho2, hkp⟩ => ⟨he, by rw [Lk.at_lost HND.out hil] at ho2; exact ho2, HOW3.out.kept fun g hg => hkp g hg⟩
                have hj0 : 0 < j := by omega
                have hci := HCI.out wr (Gr.ext_refl _)
                generalize A.getD i 0 = ai at *
                generalize A.getD 0 0 = a0 at *
                clear hc1 hb1 hil HM0 HI64
                go_wp2_with fail
                · refine Gr.region 9 [(false,0),(false,1),(false,2),(false,3),(false,4),(false,5),(false,6),(false,7),(true,8)] (by kernel_rfl) (by kernel_rfl) (fun d _ _ _ _ h => by cases d <;> exact h) ?_
                  simp only [Gr.pick, List.getElem?_cons_zero, List.getElem?_cons_succ, List.drop_succ_cons, List.drop_zero]
                  generalize hwd : wr.drew = wd at *
                  have HXD : Hid (wr.Extends wd) := by rw [← hwd]; exact Gr.ext_drew (Gr.ext_refl _)
                  clear hwd
                  iterate 4
                    refine Gr.walk_t ?_ (Or.inl ⟨by rfl, ?_⟩) ?_
                    rotate_left
                    · intro w' hw'
                      clear hw'
                      go_simp
                      try with_reducible rfl
                    simp only [Act.put, List.setIfInBounds_toArray, List.set_cons_zero, List.set_cons_succ]
                  refine Gr.walk_t ?_ (Or.inl ⟨by rfl, ?_⟩) ?_
                  rotate_left
                  · intro w' hw'
                    have hc := HCI.out w' (Gr.ext_trans HXD.out hw')
                    clear hw'
                    go_simp
                    try with_reducible rfl
                  simp only [Act.put, List.setIfInBounds_toArray, List.set_cons_zero, List.set_cons_succ]
                  iterate 2
                    refine Gr.walk_t ?_ (Or.inl ⟨by rfl, ?_⟩) ?_
                    rotate_left
                    · intro w' hw'
                      clear hw'
                      go_simp
                      try with_reducible rfl
                    simp only [Act.put, List.setIfInBounds_toArray, List.set_cons_zero, List.set_cons_succ]
                  refine Gr.walk_t ?_ (Or.inl ⟨by rfl, ?_⟩) ?_
                  rotate_left
                  · intro w' hw'
                    have hc := HC0.out w' (Gr.ext_trans HXD.out hw')
                    clear hw'
                    go_simp
                    try with_reducible rfl
                  simp only [Act.put, List.setIfInBounds_toArray, List.set_cons_zero, List.set_cons_succ]
                  refine Gr.walk_c (fun K hK => ?_)
                  go_simp
                  generalize hw : World.alloc _ _ = wl
                  have hxl : wd.Extends wl := by subst hw; exact ext_alloc _ _
                  have HH := Lib.hid (HHR.out wd wl HXD.out hw.symm)
                  refine hK.out _ _ hxl ?_
                  clear hK K hw hxl HHR HLR HCI HC0 hci
                  refine Gr.walk_nil ?_
                  go_wp2_with fail
                  refine HH.out.mono ?_
                  rintro e w9 ⟨rfl, ho9, hw9⟩
                  have HO9 := Lib.hid ho9
                  have HW9 := Lib.hid hw9
                  clear ho9 hw9 HH
                  go_wp2
                  go_roundw
                  case rel => exact ⟨i + 1, by omega, by go_num, HO9.out, HW9.out⟩
                  case measure => simp [intOf]; omega
                · refine HLR.out.mono ?_
                  rintro e w9 ⟨rfl, ho9, hw9⟩
                  have HO9 := Lib.hid ho9
                  have HW9 := Lib.hid hw9
                  clear ho9 hw9 HLR HHR HCI HC0 hci
                  go_wp2
                  go_roundw
                  case rel => exact ⟨i + 1, by omega, by go_num, HO9.out, HW9.out⟩
                  case measure => simp [intOf]; omega
              · obtain rfl : i = j := by omega
                rw [Lk.at_done (by rw [HAL.out]; exact Nat.le_refl _) (by rw [HAL.out, HNL.out])] at HDN
                have HAK := Lib.hid HON3.out.asked
                go_wp2_with fail
                refine HDN.out.mono ?_
                rintro e w8 ⟨rfl, rfl⟩
                clear HDN
                go_wp2_with fail
                refine HAK.out.mono ?_
                rintro e w9 ⟨v9, rfl, hx9, hi9⟩
                have HSM := Lib.hid (tsame_any v9 _ A w9 hi9 (HOW3.out.ints.ext hx9))
                have HX9 := Lib.hid (Gr.ext_trans HON3.out.ext hx9)
                clear hx9 hi9 HAK
                go_wp2_with fail
                refine HSM.out.mono ?_
                rintro e w10 ⟨rfl, hx10⟩
                have HE := Lib.hid (HEND.out w10 (Gr.ext_trans HX9.out hx10))
                clear hx10 HSM HX9
                go_wp2
                exact HE.out
          · exact (Lk.at_full HON.out.inv.1 (by rw [HAL.out, HNL.out]) hb).elim
end Go.Proofs.Ytgjnkfbckbkcnaa
