/- In one text: RecIs, RecSame, RecLaw, LetMath, OwnI, Append3, OwnI3, Fr, LetMem. -/
import Derived.Handy
import Derived.Deep.DeepCutAuto
import Derived.Lib.Hide
import Derived.Test.YtdbdnfjgmdkneaaRows
import Derived.WalkKit
import Derived.IntWalk
import Derived.Laws.Rows
import Derived.Laws.Tables
import Derived.ChangeKeysEq
import Derived.Deep.OwnRows
import Derived.Lib.SliceRun
import Derived.Test.YtdbdnfjgmdkneaaMD1
import Derived.Test.YtdbdnfjgmdkneaaMD2
import Derived.Test.YtdbdnfjgmdkneaaMD3
import Derived.Test.YtdbdnfjgmdkneaaMD7
import Derived.Test.YtdbdnfjgmdkneaaMD8
namespace Go.Proofs.Ytdbdnfjgmdkneaa
set_option maxRecDepth 20000
open Go.RowKit Go.Deep
set_option linter.unusedVariables false
/-- Which record bytes are: it, and no error; or none. -/
def RecIs (xs : List Nat) (r : Rc) (er : Nat) : Prop := (er = 0 ∧ KM.Right r ∧ KM.bytes r = xs) ∨ (er = 2 ∧ r = Rc.zero ∧ ∀ r', KM.Right r' → KM.bytes r' ≠ xs)
theorem KM.rk_right {r : Rc} {xs : List Nat} (h : KM.Right r) (hb : KM.bytes r = xs) : KM.rk xs = r := by
  have ht := KM.tk_bytes h
  rw [hb] at ht
  unfold KM.rk
  rw [ht]
  obtain ⟨p, n, b, s, m, k, e, g, u, d⟩ := r
  cases g with
  | false => rfl
  | true =>
    have hd := (h.2.2.2.1 rfl).2.2
    simp only at hd
    subst hd
    rfl
theorem asked14_new (xs : List Nat) (hlt : ∀ x ∈ xs, x < 256) (hn : xs.length ≤ 1000000000) : ∃ r er, RecIs xs r er ∧ (∀ v w, U8s w v xs → Calls Try.prog 16 #[v] w (ROutN r (er : Nat) w)) ∧ (∀ v w, U8s w v xs → Calls Try.prog 17 #[v] w (ROutN r (er : Nat) w)) := by
  have hrr : ∀ v w, U8s w v xs → Calls Try.prog 17 #[v] w (RROut w xs) := fun v w hv => by
    by_cases c : KM.gn 1 (xs, false) = 1
    · exact rread_gone v xs w hv c hn
    · exact rread_sym v xs w hv c hn
  by_cases hex : ∃ r, KM.Right r ∧ KM.bytes r = xs
  · obtain ⟨r, hr, hb⟩ := hex
    have hrk := KM.rk_right hr hb
    have hgood : Good xs := by
      have ht := KM.tk_bytes hr
      rw [hb] at ht
      refine ⟨by rw [ht], ?_, ?_⟩
      · rw [hrk]; exact hr
      · rw [hrk]; exact hb
    refine ⟨r, 0, .inl ⟨rfl, hr, hb⟩, fun v w hv => ?_, fun v w hv => (hrr v w hv).mono fun e w' h => ?_⟩
    · refine read_yes v xs w hv r (fun t w' hc => (taken_any xs t w' hc).mono fun e w2 h => ?_) hr
      obtain ⟨a, c, he, hu, hg⟩ := h
      have ht := KM.tk_bytes hr
      rw [hb] at ht
      rw [ht] at he hu
      refine ⟨a, c, ?_, hu, hg⟩
      rw [he]
      cases r.g <;> rfl
    · have := h.1 hgood
      rw [hrk] at this
      exact this
  · have hno : ∀ r', KM.Right r' → KM.bytes r' ≠ xs := fun r' h1 h2 => hex ⟨r', h1, h2⟩
    have hngood : ¬ Good xs := fun h => hno _ h.2.1 h.2.2
    refine ⟨Rc.zero, 2, .inr ⟨rfl, rfl, hno⟩, fun v w hv => ?_, fun v w hv => (hrr v w hv).mono fun e w' h => h.2 hngood⟩
    cases hok : ((decide ((KM.tk xs).2.1 = 0) || decide ((KM.tk xs).2.1 = 1)) && !(KM.tk xs).2.2) with
    | false =>
      refine read_bad v xs w hv (KM.tk xs).1 (fun t w' hc => (taken_any xs t w' hc).mono fun e w2 h => ?_)
      obtain ⟨a, c, he, hu, hg⟩ := h
      rw [hok] at he
      exact ⟨a, c, he, hu, hg⟩
    | true =>
      refine read_no v xs w hv (KM.tk xs).1 (fun t w' hc => (taken_any xs t w' hc).mono fun e w2 h => ?_) (fun hr => ?_)
      · obtain ⟨a, c, he, hu, hg⟩ := h
        rw [hok] at he
        exact ⟨a, c, he, hu, hg⟩
      · rw [Bool.and_eq_true, Bool.or_eq_true, decide_eq_true_eq, decide_eq_true_eq] at hok
        exact hno _ hr (KM.bytes_tk hlt (by simpa using hok.2) hok.1 fun hg => (hr.2.2.2.1 hg).2.2)
end Go.Proofs.Ytdbdnfjgmdkneaa
namespace Go.Proofs.Ytdbdnfjgmdkneaa
set_option maxRecDepth 20000
open Go.RowKit Go.Deep
set_option linter.unusedVariables false
theorem conv_ob {w : World} {v : Value} {xs : List Nat} (h : U8s w v xs) : (convert 26 9 v).run Try.prog w = .ok (.string (strOf xs)) w := conv_any h _ _ _ Try.underlying26 Try.underlying5 Try.underlying9
set_option maxHeartbeats 1000000 in
theorem same_rec (r : Rc) (a a' : Option Addr) (c c' : Nat) (w : World) (hu : U8s w (.slice a r.d.length c) r.d) (hu' : U8s w (.slice a' r.d.length c') r.d) :
    Calls Try.prog 20 #[r.val (.slice a r.d.length c), r.val (.slice a' r.d.length c')] w fun e w' => e = .returned (.bool true) ∧ w.Extends w' := by
  obtain ⟨p, n, b, s, m, k, e, g, u, d⟩ := r
  have HU : Hid (U8s w (.slice a d.length c) d) := hu
  have HU' : Hid (U8s w (.slice a' d.length c') d) := hu'
  clear hu hu'
  show Calls Try.prog 20 #[.agg #[.int .i64 p, .int .i64 n, .int .i64 b, .int .i64 s, .int .i64 m, .int .i64 k, .int .i64 e, .bool g, .int .i64 u, .slice a d.length c], .agg #[.int .i64 p, .int .i64 n, .int .i64 b, .int .i64 s, .int .i64 m, .int .i64 k, .int .i64 e, .bool g, .int .i64 u, .slice a' d.length c']] w _
  go_enter Try.func20, Try.ntmps20
  go_upto_region 1 with fail
  generalize hw1 : World.alloc w _ = w1
  generalize hw2 : World.alloc w1 _ = w2
  have hs1 : w1.heap.size = w.heap.size + 1 := by subst hw1; simp
  have hx1 : w.Extends w1 := by subst hw1; exact ext_alloc _ _
  have hx2 : w1.Extends w2 := by subst hw2; exact ext_alloc _ _
  have hb1 : w1.rangeAt w.heap.size 0 (Rc.cells ⟨p, n, b, s, m, k, e, g, u, d⟩ (.slice a d.length c)) := by subst hw1; exact box_rec w 28 ⟨p, n, b, s, m, k, e, g, u, d⟩ _
  have hb2 : w2.rangeAt w1.heap.size 0 (Rc.cells ⟨p, n, b, s, m, k, e, g, u, d⟩ (.slice a' d.length c')) := by subst hw2; exact box_rec w1 28 ⟨p, n, b, s, m, k, e, g, u, d⟩ _
  have hb1' := rangeAt_ext hb1 hx2
  rw [hs1] at hb2
  clear hw1 hw2 hb1 hs1
  have hx := Gr.ext_trans hx1 hx2
  have hv1 := conv_ob (HU.out.ext hx)
  have hv2 := conv_ob (HU'.out.ext hx)
  generalize w.heap.size = x at *
  have a0 : w2.cell? ⟨x, 0, none⟩ = some (.int .i64 p) := hb1' 0 _ rfl
  have a1 : w2.cell? ⟨x, 1, none⟩ = some (.int .i64 n) := hb1' 1 _ rfl
  have a2 : w2.cell? ⟨x, 2, none⟩ = some (.int .i64 b) := hb1' 2 _ rfl
  have a3 : w2.cell? ⟨x, 3, none⟩ = some (.int .i64 s) := hb1' 3 _ rfl
  have a4 : w2.cell? ⟨x, 4, none⟩ = some (.int .i64 m) := hb1' 4 _ rfl
  have a5 : w2.cell? ⟨x, 5, none⟩ = some (.int .i64 k) := hb1' 5 _ rfl
  have a6 : w2.cell? ⟨x, 6, none⟩ = some (.int .i64 e) := hb1' 6 _ rfl
  have a7 : w2.cell? ⟨x, 7, none⟩ = some (.bool g) := hb1' 7 _ rfl
  have a8 : w2.cell? ⟨x, 8, none⟩ = some (.int .i64 u) := hb1' 8 _ rfl
  have a9 : w2.cell? ⟨x, 9, none⟩ = some (.slice a d.length c) := hb1' 9 _ rfl
  have b0 : w2.cell? ⟨x + 1, 0, none⟩ = some (.int .i64 p) := hb2 0 _ rfl
  have b1 : w2.cell? ⟨x + 1, 1, none⟩ = some (.int .i64 n) := hb2 1 _ rfl
  have b2 : w2.cell? ⟨x + 1, 2, none⟩ = some (.int .i64 b) := hb2 2 _ rfl
  have b3 : w2.cell? ⟨x + 1, 3, none⟩ = some (.int .i64 s) := hb2 3 _ rfl
  have b4 : w2.cell? ⟨x + 1, 4, none⟩ = some (.int .i64 m) := hb2 4 _ rfl
  have b5 : w2.cell? ⟨x + 1, 5, none⟩ = some (.int .i64 k) := hb2 5 _ rfl
  have b6 : w2.cell? ⟨x + 1, 6, none⟩ = some (.int .i64 e) := hb2 6 _ rfl
  have b7 : w2.cell? ⟨x + 1, 7, none⟩ = some (.bool g) := hb2 7 _ rfl
  have b8 : w2.cell? ⟨x + 1, 8, none⟩ = some (.int .i64 u) := hb2 8 _ rfl
  have b9 : w2.cell? ⟨x + 1, 9, none⟩ = some (.slice a' d.length c') := hb2 9 _ rfl
  have HX := Lib.hid hx
  clear hb1' hb2 HU HU' hx1 hx2 hx
  generalize strOf d = sd at *
  generalize d.length = dl at *
  go_wp2
  go_ret
  exact ⟨by cases g <;> rfl, HX.out⟩
end Go.Proofs.Ytdbdnfjgmdkneaa
namespace Go.Proofs.Ytdbdnfjgmdkneaa
set_option maxRecDepth 20000
open Go.RowKit Go.Deep
set_option linter.unusedVariables false
/-- The tombstone of the example. -/
def stone : Rc := ⟨0, 1, 0, 0, 0, 0, 0, true, 0, []⟩
theorem stone_right : KM.Right stone := by
  refine ⟨by decide, by decide, by decide, fun _ => by decide, fun h => by cases h⟩
theorem rec_len {r : Rc} (h : KM.Right r) : (KM.bytes r).length ≤ 88 := by
  obtain ⟨_, _, _, h4, h5⟩ := h
  unfold KM.bytes
  by_cases hg : r.g = true
  · rw [if_pos hg, KM.head_length]; omega
  · rw [if_neg hg, List.length_append, List.length_append, KM.head_length, KM.body_length]
    have := h5 (by simpa using hg)
    obtain ⟨⟨hs, _⟩, _, hl⟩ := this
    obtain ⟨_, _, _, h64, _⟩ := hs
    omega
end Go.Proofs.Ytdbdnfjgmdkneaa
namespace Go.Proofs.Ytdbdnfjgmdkneaa
set_option maxRecDepth 20000
open Go.RowKit Go.Deep
set_option linter.unusedVariables false
/-- A letter: kind, from, to, tag, the id's two numbers, peers, records. -/
structure Lt where
  k : Int
  f : Int
  t : Int
  g : Int
  p : Int
  n : Int
  ps : List Int
  rs : List Rc
namespace LQ
def N31 (x : Int) : Prop := 0 ≤ x ∧ x ≤ 2147483647
def zero : Lt := ⟨0, 0, 0, 0, 0, 0, [], []⟩
/-- A letter that may be. -/
def Right (l : Lt) : Prop := (1 ≤ l.k ∧ l.k ≤ 3) ∧ (N31 l.f ∧ N31 l.t ∧ N31 l.g ∧ N31 l.p ∧ N31 l.n) ∧ (l.ps.length ≤ 255 ∧ ∀ x ∈ l.ps, N31 x) ∧ l.rs.length ≤ 255 ∧ ∀ r ∈ l.rs, KM.Right r
def pb (ps : List Int) : List Nat := (ps.map fun x => KM.nb 4 x.toNat).flatten
def rb1 (r : Rc) : List Nat := KM.nb 2 (KM.bytes r).length ++ KM.bytes r
def rb (rs : List Rc) : List Nat := (rs.map rb1).flatten
def head (l : Lt) (ys : List Nat) : List Nat := KM.nb 1 l.k.toNat ++ (KM.nb 4 l.f.toNat ++ (KM.nb 4 l.t.toNat ++ (KM.nb 4 l.g.toNat ++ (KM.nb 4 l.p.toNat ++ (KM.nb 4 l.n.toNat ++ ys)))))
/-- Its bytes. -/
def bytes (l : Lt) : List Nat := head l (KM.nb 1 l.ps.length ++ (pb l.ps ++ (KM.nb 1 l.rs.length ++ rb l.rs)))
theorem pb_nil : pb [] = [] := rfl
theorem pb_cons (x : Int) (ps : List Int) : pb (x :: ps) = KM.nb 4 x.toNat ++ pb ps := rfl
theorem pb_snoc (ps : List Int) (x : Int) : pb (ps ++ [x]) = pb ps ++ KM.nb 4 x.toNat := by simp [pb]
theorem pb_length : ∀ ps : List Int, (pb ps).length = 4 * ps.length
  | [] => rfl
  | x :: ps => by rw [pb_cons, List.length_append, KM.nb_length, pb_length ps, List.length_cons]; omega
theorem rb_nil : rb [] = [] := rfl
theorem rb_cons (r : Rc) (rs : List Rc) : rb (r :: rs) = rb1 r ++ rb rs := rfl
theorem rb_snoc (rs : List Rc) (r : Rc) : rb (rs ++ [r]) = rb rs ++ rb1 r := by simp [rb]
theorem rb1_lt (r : Rc) (h : ∀ x ∈ r.d, x < 256) : ∀ x ∈ rb1 r, x < 256 := fun x hx => by
  rcases List.mem_append.1 hx with h1 | h1
  · exact KM.nb_lt _ _ _ h1
  · exact KM.bytes_lt r h x h1
theorem rb_lt (rs : List Rc) (h : ∀ r ∈ rs, ∀ x ∈ r.d, x < 256) : ∀ x ∈ rb rs, x < 256 := fun x hx => by
  unfold rb at hx
  obtain ⟨y, hy, hx⟩ := List.mem_flatten.1 hx
  obtain ⟨r, hr, rfl⟩ := List.mem_map.1 hy
  exact rb1_lt r (h r hr) x hx
theorem pb_lt (ps : List Int) : ∀ x ∈ pb ps, x < 256 := fun x hx => by
  unfold pb at hx
  obtain ⟨y, hy, hx⟩ := List.mem_flatten.1 hx
  obtain ⟨r, hr, rfl⟩ := List.mem_map.1 hy
  exact KM.nb_lt _ _ _ hx
theorem head_lt (l : Lt) (ys : List Nat) (h : ∀ x ∈ ys, x < 256) : ∀ x ∈ head l ys, x < 256 := fun x hx => by
  unfold head at hx
  simp only [List.mem_append] at hx
  rcases hx with h1 | h1 | h1 | h1 | h1 | h1 | h1
  · exact KM.nb_lt _ _ _ h1
  · exact KM.nb_lt _ _ _ h1
  · exact KM.nb_lt _ _ _ h1
  · exact KM.nb_lt _ _ _ h1
  · exact KM.nb_lt _ _ _ h1
  · exact KM.nb_lt _ _ _ h1
  · exact h x h1
theorem head_length (l : Lt) (ys : List Nat) : (head l ys).length = 21 + ys.length := by
  simp only [head, List.length_append, KM.nb_length]; omega
theorem bytes_lt (l : Lt) (h : ∀ r ∈ l.rs, ∀ x ∈ r.d, x < 256) : ∀ x ∈ bytes l, x < 256 := by
  refine head_lt l _ fun x hx => ?_
  simp only [List.mem_append] at hx
  rcases hx with h1 | h1 | h1 | h1
  · exact KM.nb_lt _ _ _ h1
  · exact pb_lt _ _ h1
  · exact KM.nb_lt _ _ _ h1
  · exact rb_lt _ h _ h1
theorem bytes_pos (l : Lt) : 23 ≤ (bytes l).length := by
  unfold bytes
  rw [head_length]
  simp only [List.length_append, KM.nb_length]; omega
theorem rb_len : ∀ (rs : List Rc), (∀ r ∈ rs, KM.Right r) → (rb rs).length ≤ 90 * rs.length
  | [], _ => Nat.zero_le _
  | r :: rs, h => by
    have h1 := rb_len rs fun x hx => h x (List.mem_cons_of_mem _ hx)
    have h2 := rec_len (h r List.mem_cons_self)
    rw [rb_cons, List.length_append, List.length_cons]
    unfold rb1
    rw [List.length_append, KM.nb_length]
    omega
theorem bytes_len {l : Lt} (h : Right l) : (bytes l).length ≤ 30000 := by
  obtain ⟨_, _, ⟨h1, _⟩, h2, h3⟩ := h
  have h4 := rb_len l.rs h3
  unfold bytes
  rw [head_length]
  simp only [List.length_append, KM.nb_length, pb_length]
  omega
theorem n31_lt {x : Int} (h : N31 x) : x.toNat < 256 ^ 4 := by have := h.2; omega
theorem rec_two {r : Rc} (h : KM.Right r) : (KM.bytes r).length < 256 ^ 2 := by have := rec_len h; omega
/-- Two records' bytes, and what stands behind. -/
theorem rb1_eq {r r' : Rc} (h : KM.Right r) (h' : KM.Right r') (ys ys' : List Nat) (he : rb1 r ++ ys = rb1 r' ++ ys') : r = r' ∧ ys = ys' := by
  unfold rb1 at he
  rw [List.append_assoc, List.append_assoc] at he
  obtain ⟨e1, e2⟩ := List.append_inj he (by rw [KM.nb_length, KM.nb_length])
  have e3 := KM.nb_inj (rec_two h) (rec_two h') e1
  obtain ⟨e4, e5⟩ := List.append_inj e2 e3
  exact ⟨by rw [← KM.rk_right h rfl, ← KM.rk_right h' rfl, e4], e5⟩
theorem rb_eq : ∀ {rs rs' : List Rc} (h : ∀ r ∈ rs, KM.Right r) (h' : ∀ r ∈ rs', KM.Right r) (hl : rs.length = rs'.length) (ys ys' : List Nat) (he : rb rs ++ ys = rb rs' ++ ys'), rs = rs' ∧ ys = ys'
  | [], [], _, _, _, ys, ys', he => ⟨rfl, he⟩
  | [], _ :: _, _, _, hl, _, _, _ => by simp at hl
  | _ :: _, [], _, _, hl, _, _, _ => by simp at hl
  | r :: rs, r' :: rs', h, h', hl, ys, ys', he => by
    rw [rb_cons, rb_cons, List.append_assoc, List.append_assoc] at he
    obtain ⟨rfl, e2⟩ := rb1_eq (h r List.mem_cons_self) (h' r' List.mem_cons_self) _ _ he
    obtain ⟨rfl, e4⟩ := rb_eq (fun x hx => h x (List.mem_cons_of_mem _ hx)) (fun x hx => h' x (List.mem_cons_of_mem _ hx)) (by simpa using hl) ys ys' e2
    exact ⟨rfl, e4⟩
theorem nat_eq {x y : Int} (hx : N31 x) (hy : N31 y) (h : x.toNat = y.toNat) : x = y := by
  have := hx.1; have := hy.1; omega
theorem pb_eq : ∀ {ps ps' : List Int} (h : ∀ x ∈ ps, N31 x) (h' : ∀ x ∈ ps', N31 x) (hl : ps.length = ps'.length) (ys ys' : List Nat) (he : pb ps ++ ys = pb ps' ++ ys'), ps = ps' ∧ ys = ys'
  | [], [], _, _, _, ys, ys', he => ⟨rfl, he⟩
  | [], _ :: _, _, _, hl, _, _, _ => by simp at hl
  | _ :: _, [], _, _, hl, _, _, _ => by simp at hl
  | x :: ps, x' :: ps', h, h', hl, ys, ys', he => by
    rw [pb_cons, pb_cons, List.append_assoc, List.append_assoc] at he
    obtain ⟨e1, e2⟩ := List.append_inj he (by rw [KM.nb_length, KM.nb_length])
    have hx := h x List.mem_cons_self
    have hx' := h' x' List.mem_cons_self
    obtain rfl := nat_eq hx hx' (KM.nb_inj (n31_lt hx) (n31_lt hx') e1)
    obtain ⟨rfl, e4⟩ := pb_eq (fun y hy => h y (List.mem_cons_of_mem _ hy)) (fun y hy => h' y (List.mem_cons_of_mem _ hy)) (by simpa using hl) ys ys' e2
    exact ⟨rfl, e4⟩
theorem nb_eq {W : Nat} {x y : Int} {ys ys' : List Nat} (hx : 0 ≤ x ∧ x.toNat < 256 ^ W) (hy : 0 ≤ y ∧ y.toNat < 256 ^ W) (he : KM.nb W x.toNat ++ ys = KM.nb W y.toNat ++ ys') : x = y ∧ ys = ys' := by
  obtain ⟨e1, e2⟩ := List.append_inj he (by rw [KM.nb_length, KM.nb_length])
  have := KM.nb_inj hx.2 hy.2 e1
  exact ⟨by omega, e2⟩
theorem nb_eqn {W : Nat} {x y : Nat} {ys ys' : List Nat} (hx : x < 256 ^ W) (hy : y < 256 ^ W) (he : KM.nb W x ++ ys = KM.nb W y ++ ys') : x = y ∧ ys = ys' := by
  obtain ⟨e1, e2⟩ := List.append_inj he (by rw [KM.nb_length, KM.nb_length])
  exact ⟨KM.nb_inj hx hy e1, e2⟩
/-- No letter's bytes begin with another one's; and they tell which letter it is. -/
theorem bytes_eq {l l' : Lt} (h : Right l) (h' : Right l') (zs : List Nat) (he : bytes l' ++ zs = bytes l) : l' = l ∧ zs = [] := by
  obtain ⟨⟨a1, a2⟩, ⟨b1, b2, b3, b4, b5⟩, ⟨c1, c2⟩, d1, d2⟩ := h
  obtain ⟨⟨a1', a2'⟩, ⟨b1', b2', b3', b4', b5'⟩, ⟨c1', c2'⟩, d1', d2'⟩ := h'
  obtain ⟨k, f, t, g, p, n, ps, rs⟩ := l
  obtain ⟨k', f', t', g', p', n', ps', rs'⟩ := l'
  simp only at *
  unfold bytes head at he
  simp only [List.append_assoc] at he
  obtain ⟨rfl, he1⟩ := nb_eq (W := 1) ⟨by omega, by omega⟩ ⟨by omega, by omega⟩ he
  obtain ⟨rfl, he2⟩ := nb_eq (W := 4) ⟨b1'.1, n31_lt b1'⟩ ⟨b1.1, n31_lt b1⟩ he1
  obtain ⟨rfl, he3⟩ := nb_eq (W := 4) ⟨b2'.1, n31_lt b2'⟩ ⟨b2.1, n31_lt b2⟩ he2
  obtain ⟨rfl, he4⟩ := nb_eq (W := 4) ⟨b3'.1, n31_lt b3'⟩ ⟨b3.1, n31_lt b3⟩ he3
  obtain ⟨rfl, he5⟩ := nb_eq (W := 4) ⟨b4'.1, n31_lt b4'⟩ ⟨b4.1, n31_lt b4⟩ he4
  obtain ⟨rfl, he6⟩ := nb_eq (W := 4) ⟨b5'.1, n31_lt b5'⟩ ⟨b5.1, n31_lt b5⟩ he5
  obtain ⟨e1, he7⟩ := nb_eqn (W := 1) (by omega) (by omega) he6
  obtain ⟨rfl, he8⟩ := pb_eq c2' c2 e1 _ _ he7
  obtain ⟨e2, he9⟩ := nb_eqn (W := 1) (by omega) (by omega) he8
  obtain ⟨rfl, he10⟩ := rb_eq d2' d2 e2 _ [] (he9.trans (List.append_nil _).symm)
  exact ⟨rfl, he10⟩
/-- So many numbers of four bytes, taken one behind the other. -/
def tkp : Nat → List Nat × Bool → List Int × (List Nat × Bool)
  | 0, s => ([], s)
  | q + 1, s => ((tkp q s).1 ++ [((KM.gn 4 (tkp q s).2 : Nat) : Int)], KM.gs 4 (tkp q s).2)
theorem tkp_len (s : List Nat × Bool) : ∀ q, (tkp q s).1.length = q
  | 0 => rfl
  | q + 1 => by
    show ((tkp q s).1 ++ _).length = _
    rw [List.length_append, tkp_len s q]; rfl
theorem tkp_lt (s : List Nat × Bool) (h : ∀ x ∈ s.1, x < 256) : ∀ q, ∀ x ∈ (tkp q s).2.1, x < 256
  | 0 => h
  | q + 1 => KM.gs_lt (tkp_lt s h q)
theorem tkp_slen (s : List Nat × Bool) : ∀ q, (tkp q s).2.1.length ≤ s.1.length
  | 0 => Nat.le_refl _
  | q + 1 => Nat.le_trans (KM.gs_len _ _) (tkp_slen s q)
/-- What was taken stood there. -/
theorem tkp_back (s : List Nat × Bool) (h : ∀ x ∈ s.1, x < 256) : ∀ q, (tkp q s).2.2 = false → s.2 = false ∧ s.1 = pb (tkp q s).1 ++ (tkp q s).2.1
  | 0, hb => ⟨hb, rfl⟩
  | q + 1, hb => by
    obtain ⟨h1, h2⟩ := KM.gs_back (tkp_lt s h q) hb
    obtain ⟨h3, h4⟩ := tkp_back s h q h1
    refine ⟨h3, ?_⟩
    show s.1 = pb ((tkp q s).1 ++ [((KM.gn 4 (tkp q s).2 : Nat) : Int)]) ++ (KM.gs 4 (tkp q s).2).1
    rw [pb_snoc, List.append_assoc, Int.toNat_natCast, ← h2]
    exact h4
theorem take_snoc {α : Type} (l : List α) (q : Nat) (d : α) (h : q < l.length) : l.take (q + 1) = l.take q ++ [l.getD q d] := by
  rw [List.take_succ_eq_append_getElem h]
  simp [h]
/-- Of a letter's peers these are taken. -/
theorem tkp_some {ps : List Int} (hps : ∀ x ∈ ps, N31 x) (ys : List Nat) : ∀ q, q ≤ ps.length → tkp q (pb ps ++ ys, false) = (ps.take q, (pb (ps.drop q) ++ ys, false))
  | 0, _ => rfl
  | q + 1, hq => by
    have ih := tkp_some hps ys q (by omega)
    have hx : N31 (ps.getD q 0) := hps _ (by rw [List.getD_eq_getElem?_getD, List.getElem?_eq_getElem (by omega)]; exact List.getElem_mem _)
    have hd : ps.drop q = ps.getD q 0 :: ps.drop (q + 1) := by
      rw [List.drop_eq_getElem_cons (by omega)]
      congr 1
      simp [show q < ps.length by omega]
    have hg := KM.gs_some (W := 4) (ys := pb (ps.drop (q + 1)) ++ ys) (n31_lt hx)
    show ((tkp q _).1 ++ [((KM.gn 4 (tkp q _).2 : Nat) : Int)], KM.gs 4 (tkp q _).2) = _
    rw [ih]
    simp only
    rw [hd, pb_cons, List.append_assoc, hg.1, hg.2, take_snoc ps q 0 (by omega), Int.toNat_of_nonneg hx.1]
/-- So many records, taken one behind the other: these, and what is left. -/
def RT : Nat → List Nat × Bool → List Rc → List Nat × Bool → Prop
  | 0, s, rs, s' => rs = [] ∧ s' = s
  | q + 1, s, rs, s' => ∃ rs0 s0 r, RT q s rs0 s0 ∧ rs = rs0 ++ [r] ∧ KM.Right r ∧ KM.bytes r = KM.pc (KM.gn 2 s0) (KM.gs 2 s0) ∧ s' = KM.gs (KM.gn 2 s0) (KM.gs 2 s0)
theorem RT.len {s : List Nat × Bool} : ∀ {q : Nat} {rs : List Rc} {s' : List Nat × Bool}, RT q s rs s' → rs.length = q
  | 0, _, _, h => by rw [h.1]; rfl
  | q + 1, _, _, ⟨rs0, s0, r, h1, h2, _⟩ => by rw [h2, List.length_append, RT.len h1]; rfl
theorem RT.right {s : List Nat × Bool} : ∀ {q : Nat} {rs : List Rc} {s' : List Nat × Bool}, RT q s rs s' → ∀ r ∈ rs, KM.Right r
  | 0, _, _, h => by rw [h.1]; intro r hr; cases hr
  | q + 1, _, _, ⟨rs0, s0, r, h1, h2, h3, _⟩ => by
    rw [h2]
    intro x hx
    rcases List.mem_append.1 hx with hx | hx
    · exact RT.right h1 x hx
    · obtain rfl : x = r := by simpa using hx
      exact h3
theorem RT.lt {s : List Nat × Bool} (h : ∀ x ∈ s.1, x < 256) : ∀ {q : Nat} {rs : List Rc} {s' : List Nat × Bool}, RT q s rs s' → ∀ x ∈ s'.1, x < 256
  | 0, _, _, h1 => by rw [h1.2]; exact h
  | q + 1, _, _, ⟨rs0, s0, r, h1, _, _, _, h5⟩ => by
    rw [h5]
    exact KM.gs_lt (KM.gs_lt (RT.lt h h1))
theorem RT.slen {s : List Nat × Bool} : ∀ {q : Nat} {rs : List Rc} {s' : List Nat × Bool}, RT q s rs s' → s'.1.length ≤ s.1.length
  | 0, _, _, h1 => by rw [h1.2]; exact Nat.le_refl _
  | q + 1, _, _, ⟨rs0, s0, r, h1, _, _, _, h5⟩ => by
    rw [h5]
    exact Nat.le_trans (KM.gs_len _ _) (Nat.le_trans (KM.gs_len _ _) (RT.slen h1))
/-- A piece that was taken stood there. -/
theorem pc_back {n : Nat} {s : List Nat × Bool} (hb : (KM.gs n s).2 = false) : s.2 = false ∧ s.1 = KM.pc n s ++ (KM.gs n s).1 ∧ (KM.pc n s).length = n := by
  unfold KM.gs KM.pc at *
  by_cases c : s.2 = true ∨ s.1.length < n
  · rw [if_pos c] at hb; cases hb
  · rw [if_neg c, if_neg c]
    refine ⟨by cases h2 : s.2 <;> simp_all, (List.take_append_drop _ _).symm, ?_⟩
    rw [List.length_take]; omega
theorem RT.back {s : List Nat × Bool} (h : ∀ x ∈ s.1, x < 256) : ∀ {q : Nat} {rs : List Rc} {s' : List Nat × Bool}, RT q s rs s' → s'.2 = false → s.2 = false ∧ s.1 = rb rs ++ s'.1
  | 0, _, _, h1, hb => by rw [h1.1, h1.2] at *; exact ⟨hb, rfl⟩
  | q + 1, _, _, ⟨rs0, s0, r, h1, h2, h3, h4, h5⟩, hb => by
    subst h5; subst h2
    obtain ⟨e1, e2, e3⟩ := pc_back hb
    obtain ⟨e4, e5⟩ := KM.gs_back (RT.lt h h1) e1
    obtain ⟨e6, e7⟩ := RT.back h h1 e4
    refine ⟨e6, ?_⟩
    rw [rb_snoc, List.append_assoc]
    unfold rb1
    rw [h4, e3, List.append_assoc, ← e2, ← e5]
    exact e7
theorem pc_some (xs ys : List Nat) : KM.pc xs.length (xs ++ ys, false) = xs ∧ KM.gs xs.length (xs ++ ys, false) = (ys, false) := by
  have c : ¬ ((xs ++ ys, false).2 = true ∨ (xs ++ ys, false).1.length < xs.length) := by simp
  unfold KM.pc KM.gs
  rw [if_neg c, if_neg c]
  simp
/-- The next record of a letter's. -/
theorem rb_step {rs : List Rc} (hrs : ∀ r ∈ rs, KM.Right r) (ys : List Nat) {q : Nat} (hq : q < rs.length) : ∃ r, KM.Right r ∧ rs.drop q = r :: rs.drop (q + 1) ∧ rs.take (q + 1) = rs.take q ++ [r] ∧
    KM.gn 2 (rb (rs.drop q) ++ ys, false) = (KM.bytes r).length ∧ KM.gs 2 (rb (rs.drop q) ++ ys, false) = (KM.bytes r ++ (rb (rs.drop (q + 1)) ++ ys), false) ∧
    KM.pc (KM.bytes r).length (KM.bytes r ++ (rb (rs.drop (q + 1)) ++ ys), false) = KM.bytes r ∧ KM.gs (KM.bytes r).length (KM.bytes r ++ (rb (rs.drop (q + 1)) ++ ys), false) = (rb (rs.drop (q + 1)) ++ ys, false) := by
  refine ⟨rs[q], hrs _ (List.getElem_mem _), List.drop_eq_getElem_cons hq, List.take_succ_eq_append_getElem hq, ?_, ?_, (pc_some _ _).1, (pc_some _ _).2⟩
  · rw [List.drop_eq_getElem_cons hq, rb_cons, rb1, List.append_assoc, List.append_assoc]
    exact (KM.gs_some (rec_two (hrs _ (List.getElem_mem _)))).1
  · rw [List.drop_eq_getElem_cons hq, rb_cons, rb1, List.append_assoc, List.append_assoc]
    exact (KM.gs_some (rec_two (hrs _ (List.getElem_mem _)))).2
theorem RT.some {rs0 : List Rc} (hrs : ∀ r ∈ rs0, KM.Right r) (ys : List Nat) : ∀ {q : Nat} {rs : List Rc} {s' : List Nat × Bool}, RT q (rb rs0 ++ ys, false) rs s' → q ≤ rs0.length → rs = rs0.take q ∧ s' = (rb (rs0.drop q) ++ ys, false)
  | 0, _, _, h, _ => ⟨h.1, h.2⟩
  | q + 1, _, _, ⟨rs1, s1, r, h1, h2, h3, h4, h5⟩, hq => by
    obtain ⟨rfl, rfl⟩ := RT.some hrs ys h1 (by omega)
    obtain ⟨r', a1, a2, a3, a4, a5, a6, a7⟩ := rb_step hrs ys (q := q) (by omega)
    rw [a4, a5, a6] at h4
    rw [a4, a5, a7] at h5
    have e : r = r' := by rw [← KM.rk_right h3 rfl, ← KM.rk_right a1 rfl, h4]
    subst e
    exact ⟨by rw [h2, a3], h5⟩
/-- How far a letter's first numbers are taken. -/
structure Hd where
  k : Nat
  f : Nat
  t : Nat
  g : Nat
  p : Nat
  n : Nat
  c : Nat
  s : List Nat × Bool
def hd (xs : List Nat) : Hd :=
  let s0 : List Nat × Bool := (xs, false)
  let s1 := KM.gs 1 s0
  let s2 := KM.gs 4 s1
  let s3 := KM.gs 4 s2
  let s4 := KM.gs 4 s3
  let s5 := KM.gs 4 s4
  let s6 := KM.gs 4 s5
  ⟨KM.gn 1 s0, KM.gn 4 s1, KM.gn 4 s2, KM.gn 4 s3, KM.gn 4 s4, KM.gn 4 s5, KM.gn 1 s6, KM.gs 1 s6⟩
theorem hd_lt {xs : List Nat} (h : ∀ x ∈ xs, x < 256) : ∀ x ∈ (hd xs).s.1, x < 256 :=
  KM.gs_lt (KM.gs_lt (KM.gs_lt (KM.gs_lt (KM.gs_lt (KM.gs_lt (KM.gs_lt h))))))
theorem hd_len (xs : List Nat) : (hd xs).s.1.length ≤ xs.length :=
  Nat.le_trans (KM.gs_len _ _) (Nat.le_trans (KM.gs_len _ _) (Nat.le_trans (KM.gs_len _ _) (Nat.le_trans (KM.gs_len _ _) (Nat.le_trans (KM.gs_len _ _) (Nat.le_trans (KM.gs_len _ _) (KM.gs_len 1 (xs, false)))))))
theorem hd_c {xs : List Nat} (h : ∀ x ∈ xs, x < 256) : (hd xs).c < 256 :=
  KM.gn_lt (W := 1) (KM.gs_lt (KM.gs_lt (KM.gs_lt (KM.gs_lt (KM.gs_lt (KM.gs_lt (s := (xs, false)) h))))))
theorem hd_back {xs : List Nat} (h : ∀ x ∈ xs, x < 256) (hb : (hd xs).s.2 = false) : xs = head ⟨(hd xs).k, (hd xs).f, (hd xs).t, (hd xs).g, (hd xs).p, (hd xs).n, [], []⟩ (KM.nb 1 (hd xs).c ++ (hd xs).s.1) := by
  have l0 : ∀ x ∈ ((xs, false) : List Nat × Bool).1, x < 256 := h
  have l1 := KM.gs_lt (W := 1) l0
  have l2 := KM.gs_lt (W := 4) l1
  have l3 := KM.gs_lt (W := 4) l2
  have l4 := KM.gs_lt (W := 4) l3
  have l5 := KM.gs_lt (W := 4) l4
  have l6 := KM.gs_lt (W := 4) l5
  obtain ⟨f6, q6⟩ := KM.gs_back l6 hb
  obtain ⟨f5, q5⟩ := KM.gs_back l5 f6
  obtain ⟨f4, q4⟩ := KM.gs_back l4 f5
  obtain ⟨f3, q3⟩ := KM.gs_back l3 f4
  obtain ⟨f2, q2⟩ := KM.gs_back l2 f3
  obtain ⟨f1, q1⟩ := KM.gs_back l1 f2
  obtain ⟨f0, q0⟩ := KM.gs_back l0 f1
  rw [q1, q2, q3, q4, q5, q6] at q0
  simp only at q0
  conv => lhs; rw [q0]
  simp only [head, Int.toNat_natCast]
  rfl
theorem hd_some {l : Lt} (h : Right l) : ∃ H : Hd, hd (bytes l) = H ∧ (H.k : Int) = l.k ∧ (H.f : Int) = l.f ∧ (H.t : Int) = l.t ∧ (H.g : Int) = l.g ∧ (H.p : Int) = l.p ∧ (H.n : Int) = l.n ∧ H.c = l.ps.length ∧ H.s = (pb l.ps ++ (KM.nb 1 l.rs.length ++ rb l.rs), false) := by
  obtain ⟨⟨a1, a2⟩, ⟨b1, b2, b3, b4, b5⟩, ⟨c1, c2⟩, d1, d2⟩ := h
  have ek := fun ys => KM.gs_some (W := 1) (n := l.k.toNat) (ys := ys) (by omega)
  have e1 := fun ys => KM.gs_some (W := 4) (ys := ys) (n31_lt b1)
  have e2 := fun ys => KM.gs_some (W := 4) (ys := ys) (n31_lt b2)
  have e3 := fun ys => KM.gs_some (W := 4) (ys := ys) (n31_lt b3)
  have e4 := fun ys => KM.gs_some (W := 4) (ys := ys) (n31_lt b4)
  have e5 := fun ys => KM.gs_some (W := 4) (ys := ys) (n31_lt b5)
  have ec := fun ys => KM.gs_some (W := 1) (n := l.ps.length) (ys := ys) (by omega)
  refine ⟨_, rfl, ?_⟩
  unfold hd bytes head
  simp only [(ek _).1, (ek _).2, (e1 _).1, (e1 _).2, (e2 _).1, (e2 _).2, (e3 _).1, (e3 _).2, (e4 _).1, (e4 _).2, (e5 _).1, (e5 _).2, (ec _).1, (ec _).2]
  refine ⟨by omega, Int.toNat_of_nonneg b1.1, Int.toNat_of_nonneg b2.1, Int.toNat_of_nonneg b3.1, Int.toNat_of_nonneg b4.1, Int.toNat_of_nonneg b5.1, ?_⟩
  trivial
/-- The letter that so far was taken: q peers, and these records. -/
def far (xs : List Nat) (q : Nat) (rs : List Rc) : Lt := ⟨(hd xs).k, (hd xs).f, (hd xs).t, (hd xs).g, (hd xs).p, (hd xs).n, (tkp q (hd xs).s).1, rs⟩
/-- What stands behind the peers: how many records there are, and these. -/
def cm (xs : List Nat) : Nat := KM.gn 1 (tkp (hd xs).c (hd xs).s).2
def sm (xs : List Nat) : List Nat × Bool := KM.gs 1 (tkp (hd xs).c (hd xs).s).2
theorem cm_lt {xs : List Nat} (h : ∀ x ∈ xs, x < 256) : cm xs < 256 := KM.gn_lt (W := 1) (tkp_lt _ (hd_lt h) _)
theorem sm_lt {xs : List Nat} (h : ∀ x ∈ xs, x < 256) : ∀ x ∈ (sm xs).1, x < 256 := KM.gs_lt (tkp_lt _ (hd_lt h) _)
theorem sm_len (xs : List Nat) : (sm xs).1.length ≤ xs.length := Nat.le_trans (KM.gs_len _ _) (Nat.le_trans (tkp_slen _ _) (hd_len xs))
/-- All was taken, and nothing is left: these are the letter's bytes. -/
theorem far_bytes {xs : List Nat} (h : ∀ x ∈ xs, x < 256) {rs : List Rc} {s : List Nat × Bool} (hr : RT (cm xs) (sm xs) rs s) (hb : s.2 = false) (hs : s.1 = []) : bytes (far xs (hd xs).c rs) = xs := by
  obtain ⟨e1, e2⟩ := hr.back (sm_lt h) hb
  obtain ⟨e3, e4⟩ := KM.gs_back (tkp_lt _ (hd_lt h) _) e1
  obtain ⟨e5, e6⟩ := tkp_back _ (hd_lt h) _ e3
  have e7 := hd_back h e5
  rw [e6, e4] at e7
  show head _ (KM.nb 1 (tkp (hd xs).c (hd xs).s).1.length ++ (pb (tkp (hd xs).c (hd xs).s).1 ++ (KM.nb 1 rs.length ++ rb rs))) = xs
  rw [tkp_len, hr.len]
  conv => rhs; rw [e7]
  have e8 : (KM.gs 1 (tkp (hd xs).c (hd xs).s).2).1 = rb rs := by
    have := e2
    rw [hs, List.append_nil] at this
    exact this
  rw [e8]
  rfl
/-- Of a letter's bytes, so much is taken. -/
theorem far_some {xs : List Nat} {l : Lt} (h : Right l) (hb : bytes l = xs) : (hd xs).c = l.ps.length ∧ (∀ q, q ≤ l.ps.length → (tkp q (hd xs).s).2.2 = false) ∧ cm xs = l.rs.length ∧ sm xs = (rb l.rs, false) ∧ far xs (hd xs).c l.rs = l := by
  subst hb
  obtain ⟨H, e0, e1, e2, e3, e4, e5, e6, e7, e8⟩ := hd_some h
  obtain ⟨⟨a1, a2⟩, ⟨b1, b2, b3, b4, b5⟩, ⟨c1, c2⟩, d1, d2⟩ := h
  have ht := fun q hq => tkp_some c2 (KM.nb 1 l.rs.length ++ rb l.rs) q hq
  have hg := KM.gs_some (W := 1) (n := l.rs.length) (ys := rb l.rs) (by omega)
  have hfull := ht l.ps.length (Nat.le_refl _)
  rw [List.take_length, List.drop_length, pb_nil, List.nil_append] at hfull
  refine ⟨by rw [e0]; exact e7, fun q hq => by rw [e0, e8, ht q hq], ?_, ?_, ?_⟩
  · unfold cm; rw [e0, e8, e7, hfull, hg.1]
  · unfold sm; rw [e0, e8, e7, hfull, hg.2]
  · unfold far
    rw [e0, e1, e2, e3, e4, e5, e6, e8, e7, hfull]
/-- As soon as a record can't be read there was no such letter. -/
theorem none_rec {xs : List Nat} {q : Nat} {rs : List Rc} {s : List Nat × Bool} (hr : RT q (sm xs) rs s) (hq : q < cm xs) (hn : ∀ r, KM.Right r → KM.bytes r ≠ KM.pc (KM.gn 2 s) (KM.gs 2 s)) : ∀ l, Right l → bytes l ≠ xs := fun l h hb => by
  obtain ⟨e1, e2, e3, e4, e5⟩ := far_some h hb
  have d2 := h.2.2.2.2
  rw [e4, show rb l.rs = rb l.rs ++ [] from (List.append_nil _).symm] at hr
  obtain ⟨_, rfl⟩ := RT.some d2 [] hr (by omega)
  obtain ⟨r, a1, a2, a3, a4, a5, a6, a7⟩ := rb_step d2 [] (q := q) (by omega)
  exact hn r a1 (by rw [a4, a5, a6])
theorem all_rec {xs : List Nat} {rs : List Rc} {s : List Nat × Bool} (hr : RT (cm xs) (sm xs) rs s) {l : Lt} (h : Right l) (hb : bytes l = xs) : far xs (hd xs).c rs = l ∧ s = ([], false) := by
  obtain ⟨e1, e2, e3, e4, e5⟩ := far_some h hb
  have d2 := h.2.2.2.2
  rw [e4, show rb l.rs = rb l.rs ++ [] from (List.append_nil _).symm] at hr
  obtain ⟨e6, e7⟩ := RT.some d2 [] hr (by omega)
  rw [e3, List.take_length] at e6
  rw [e3, List.drop_length] at e7
  subst e6
  exact ⟨e5, e7⟩
/-- As far as the reference reads, which stops where there is too little. -/
theorem piece_none {xs : List Nat} {q : Nat} {rs : List Rc} {s : List Nat × Bool} (hr : RT q (sm xs) rs s) (hq : q < cm xs) (hn : (KM.gs 2 s).2 = true ∨ (KM.gs 2 s).1.length < KM.gn 2 s) : ∀ l, Right l → bytes l ≠ xs := fun l h hb => by
  obtain ⟨e1, e2, e3, e4, e5⟩ := far_some h hb
  have d2 := h.2.2.2.2
  rw [e4, show rb l.rs = rb l.rs ++ [] from (List.append_nil _).symm] at hr
  obtain ⟨_, rfl⟩ := RT.some d2 [] hr (by omega)
  obtain ⟨r, a1, a2, a3, a4, a5, a6, a7⟩ := rb_step d2 [] (q := q) (by omega)
  rw [a4, a5] at hn
  simp only [List.length_append] at hn
  rcases hn with hn | hn
  · cases hn
  · omega
theorem end_some {xs : List Nat} {q j : Nat} {rs : List Rc} {s : List Nat × Bool} (hq : q ≤ (hd xs).c) (hqe : q = (hd xs).c ∨ (tkp q (hd xs).s).2.2 = true)
    (hr : RT j (KM.gs 1 (tkp q (hd xs).s).2) rs s) (hj : j ≤ KM.gn 1 (tkp q (hd xs).s).2) (hje : j = KM.gn 1 (tkp q (hd xs).s).2 ∨ s.2 = true) {l : Lt} (h : Right l) (hb : bytes l = xs) : s.2 = false ∧ far xs q rs = l := by
  obtain ⟨e1, e2, e3, e4, e5⟩ := far_some h hb
  rcases hqe with rfl | hbad
  · have hr' : RT j (sm xs) rs s := hr
    rcases hje with hje | hje
    · have hj2 : j = cm xs := hje
      subst hj2
      obtain ⟨h1, h2⟩ := all_rec hr' h hb
      exact ⟨by rw [h2], h1⟩
    · have d2 := h.2.2.2.2
      rw [e4, show rb l.rs = rb l.rs ++ [] from (List.append_nil _).symm] at hr'
      have hj2 : j ≤ cm xs := hj
      obtain ⟨_, h2⟩ := RT.some d2 [] hr' (by omega)
      rw [h2] at hje
      cases hje
  · rw [e2 q (by omega)] at hbad
    cases hbad
theorem gn_short (W : Nat) (s : List Nat × Bool) (h : s.2 = true) : KM.gn W s = 0 := by
  unfold KM.gn; rw [if_pos (Or.inl h)]
/-- Which letter bytes are: it, and no error; or none. -/
def Is (xs : List Nat) (l : Lt) (er : Nat) : Prop := (er = 0 ∧ Right l ∧ bytes l = xs) ∨ (er = 2 ∧ l = zero ∧ ∀ l', Right l' → bytes l' ≠ xs)
theorem is_any (xs : List Nat) : ∃ l er, Is xs l er := by
  by_cases h : ∃ l, Right l ∧ bytes l = xs
  · obtain ⟨l, h⟩ := h; exact ⟨l, 0, .inl ⟨rfl, h⟩⟩
  · exact ⟨zero, 2, .inr ⟨rfl, rfl, fun l h1 h2 => h ⟨l, h1, h2⟩⟩⟩
theorem is_uniq {xs : List Nat} {l l' : Lt} {er er' : Nat} (h : Is xs l er) (h' : Is xs l' er') : l = l' ∧ er = er' := by
  rcases h with ⟨h1, h2, h3⟩ | ⟨h1, h2, h3⟩
  · rcases h' with ⟨h1', h2', h3'⟩ | ⟨h1', h2', h3'⟩
    · obtain ⟨e, _⟩ := bytes_eq h2' h2 [] (by rw [List.append_nil, h3, h3'])
      exact ⟨e, by omega⟩
    · exact absurd h3 (h3' _ h2)
  · rcases h' with ⟨h1', h2', h3'⟩ | ⟨h1', h2', h3'⟩
    · exact absurd h3' (h3 _ h2')
    · exact ⟨by rw [h2, h2'], by omega⟩
end LQ
end Go.Proofs.Ytdbdnfjgmdkneaa
namespace Go.Proofs.Ytdbdnfjgmdkneaa
set_option maxRecDepth 20000
open Go.RowKit Go.Deep
set_option linter.unusedVariables false
theorem owniinfo : (Try.prog.info? 3).map (fun i => (i.zero, i.size, i.bytes)) = some (some (.int .i64 0), 1, 8) := by kernel_rfl
/-- v is a slice of the call's own, in memory from B on, of the ints xs. -/
def OwnI (w : World) (B : Nat) (v : Value) (xs : List Int) : Prop := w.ownsRow B 3 1 v xs.length (i64vs xs)
theorem OwnI.nil (w : World) (B : Nat) : OwnI w B (.slice none 0 0) [] := World.ownsRow_nil _ _ _ _
theorem OwnI.ints {w : World} {B : Nat} {v : Value} {xs : List Int} (h : OwnI w B v xs) : Ints w v xs := owns_ints h
theorem OwnI.ext {w w' : World} {B : Nat} {v : Value} {xs : List Int} (h : OwnI w B v xs) (hx : w.Extends w') : OwnI w' B v xs := owns_ext h hx
theorem OwnI.mono {w : World} {B B' : Nat} {v : Value} {xs : List Int} (h : OwnI w B v xs) (hB : B' ≤ B) : OwnI w B' v xs := owns_base h hB
theorem OwnI.lt {w : World} {B : Nat} {v : Value} {xs : List Int} (h : OwnI w B v xs) : ∀ g, v.ownBlock = some g → B ≤ g ∧ g < w.heap.size := fun g hg => World.ownsRow.lt h g hg
theorem OwnI.kinds {w : World} {B : Nat} {v : Value} {xs : List Int} (h : OwnI w B v xs) : (v = .slice none 0 0 ∧ xs = []) ∨ ∃ g cap, v = .slice (some ⟨g, 0, none⟩) xs.length cap ∧ xs.length ≤ cap := by
  rcases h.2 with ⟨rfl, h0⟩ | ⟨g, cap, cur, rfl, _, _, hc, _⟩
  · exact .inl ⟨rfl, List.eq_nil_of_length_eq_zero h0⟩
  · exact .inr ⟨g, cap, rfl, hc⟩
theorem OwnI.slice {w : World} {B : Nat} {v : Value} {xs : List Int} (h : OwnI w B v xs) : ∃ a cap, v = .slice a xs.length cap := by
  rcases h.kinds with ⟨rfl, rfl⟩ | ⟨g, cap, rfl, _⟩
  · exact ⟨_, _, rfl⟩
  · exact ⟨_, _, rfl⟩
theorem i64vs_one (xs : List Int) : ∀ u ∈ i64vs xs, u.oneCell' = true := fun u hu => by
  obtain ⟨x, _, rfl⟩ := List.mem_map.1 hu; rfl
theorem i64vs_app (xs ys : List Int) : i64vs (xs ++ ys) = i64vs xs ++ i64vs ys := by simp [i64vs]
theorem ints_src {w : World} {g o n c : Nat} {l : List Int} (hn : l.length = n) (h : ∀ k, k < n → w.cell? ⟨g, o + k, none⟩ = some (.int .i64 (l.getD k 0))) : Src Try.prog 1 76 (.slice (some ⟨g, o, none⟩) n c) n (i64vs l) w := by
  refine Src.ofSlice w Try.underlying76 ⟨g, o, none⟩ n c (i64vs l) (by rw [i64vs_length, hn, Nat.mul_one]) (fun j u hu => ?_) (i64vs_one l)
  have hj : j < l.length := by have := (List.getElem?_eq_some_iff.1 hu).1; rwa [i64vs_length] at this
  rw [Addr.add_mid, h j (by omega)]
  simp only [i64vs, List.getElem?_map, List.getElem?_eq_getElem hj, Option.map_some, Option.some.injEq] at hu
  rw [← hu]
  simp [hj]
/-- One int alone. -/
theorem one_src {w : World} {y c : Nat} {x : Int} {T : TypeId} (h : w.heap[y]? = some (.cells #[.int .i64 x] T (0, 0))) : Src Try.prog 1 76 (.slice (some ⟨y, 0, none⟩) 1 c) 1 (i64vs [x]) w :=
  ints_src rfl fun k hk => by
    obtain rfl : k = 0 := by omega
    rw [cell_of_row _ _ _ _ _ _ h]; rfl
end Go.Proofs.Ytdbdnfjgmdkneaa
namespace Go.Proofs.Ytdbdnfjgmdkneaa
set_option maxRecDepth 20000
open Go.RowKit Go.Deep
set_option linter.unusedVariables false
/-- All cells of the array are C. -/
def CleanBlk (C : Value → Prop) (w : World) (v : Value) : Prop := ∀ (g : Nat) (cs : Array Value) (T : TypeId) (f : Nat × Nat), v.ownBlock = some g → w.heap[g]? = some (.cells cs T f) → ∀ y ∈ cs.toList, C y
theorem CleanBlk.nil (C : Value → Prop) (w : World) : CleanBlk C w (.slice none 0 0) := fun g cs T f hg => by cases hg
theorem CleanBlk.kept {C : Value → Prop} {w w' : World} {v : Value} (h : CleanBlk C w v) (hb : ∀ g, v.ownBlock = some g → w'.heap[g]? = w.heap[g]?) : CleanBlk C w' v := fun g cs T f hg hc => h g cs T f hg (by rw [← hb g hg]; exact hc)
theorem zero_mem {zc : Array Value} {k : Nat} {y : Value} (h : y ∈ (Builtin.zeroCells zc k).toList) : y ∈ zc.toList := by
  unfold Builtin.zeroCells at h
  simp only [Array.toList_map, Array.toList_range, List.mem_map, List.mem_range] at h
  obtain ⟨i, hi, rfl⟩ := h
  have hz : 0 < zc.size := by
    rcases Nat.eq_zero_or_pos zc.size with h0 | h0
    · rw [h0, Nat.mul_zero] at hi; omega
    · exact h0
  have hm := Nat.mod_lt i hz
  rw [getElem!_pos zc (i % zc.size) hm]
  exact Array.getElem_mem_toList hm
section
variable {P : Program} (w : World)
theorem run_append_own_src3 (base : Nat) (t tx ty e : TypeId) (i : TypeInfo) (z : Value) (size bytes : Nat) (ht : P.underlying t = some (.slice e)) (hi : P.info? e = some i) (hz : i.zero = some z)
    (hsize : i.size = size) (hby : i.bytes = bytes) (hzs : z.cells.size = size)
    (v : Value) (n : Nat) (xs : List Value) (hown : w.ownsRow base e size v n xs) (x : Value) (m : Nat) (news : List Value) (hs : Src P size tx x m news w)
    (h63 : n + m ≤ maxLen) (hbytes : (n + m) * bytes ≤ 140737488355328) (hbase : base ≤ w.heap.size) (C : Value → Prop) (hC : CleanBlk C w v) (hCn : ∀ y ∈ news, C y) (hCz : ∀ y ∈ z.cells.toList, C y) :
    ∃ v' w', (Builtin.append_ #[t, tx] ty #[v, x]).run P w = .ok v' w' ∧ w'.ownsRow base e size v' (n + m) (xs ++ news) ∧ w.grownBy w' v.ownBlock ∧
      (v'.ownBlock = v.ownBlock ∨ ∃ g, v'.ownBlock = some g ∧ w.heap.size ≤ g) ∧ CleanBlk C w' v' := by
  subst hsize
  subst hby
  have hsmall : n + m ≤ 9223372036854775807 := by simp only [maxLen] at h63; omega
  have hl := hs.newsLen
  have hlen : (xs ++ news).length = (n + m) * i.size := by rw [List.length_append, hown.1, hl, Nat.add_mul]
  have hCx : ∀ y ∈ xs, C y := fun y hy => by
    rcases hown.2 with ⟨rfl, rfl⟩ | ⟨g, cap, cur, rfl, hbg, hg, hnc, hcm, hcs, htake⟩
    · obtain rfl : xs = [] := List.eq_nil_of_length_eq_zero (by simpa using hown.1)
      cases hy
    · rw [← htake] at hy
      exact hC g cur _ _ rfl hg y (List.mem_of_mem_take hy)
  have fresh : ∀ (k cap' : Nat) (n' : Nat), CleanBlk C (w.drew.alloc (.cells ((xs ++ news).toArray ++ Builtin.zeroCells z.cells k) e)) (.slice (some ⟨w.heap.size, 0, none⟩) n' cap') := fun k cap' n' g cs T f hg hc y hy => by
    simp only [Value.ownBlock, Option.some.injEq] at hg
    subst hg
    rw [show w.heap.size = w.drew.heap.size from rfl, heap_alloc_new] at hc
    simp only [Option.some.injEq, Obj.cells.injEq] at hc
    rw [← hc.1, Array.toList_append, List.mem_append] at hy
    rcases hy with hy | hy
    · rcases List.mem_append.1 (by simpa using hy) with hy | hy
      · exact hCx y hy
      · exact hCn y hy
    · exact hCz y (zero_mem hy)
  have grown : ∀ (old : Nat), old < n + m → ∀ (row : Option Nat),
      (w.drew.alloc (.cells ((xs ++ news).toArray ++ Builtin.zeroCells z.cells (grownCap w (n + m) old e - (n + m))) e)).ownsRow base e i.size
        (.slice (some ⟨w.heap.size, 0, none⟩) (n + m) (grownCap w (n + m) old e)) (n + m) (xs ++ news) ∧
      w.grownBy (w.drew.alloc (.cells ((xs ++ news).toArray ++ Builtin.zeroCells z.cells (grownCap w (n + m) old e - (n + m))) e)) row := by
    intro old ho row
    have hge := grownCap_ge w (n + m) old e
    have hcm : grownCap w (n + m) old e ≤ maxLen := grownCap_le_maxLen w (n + m) old e h63
    refine ⟨⟨hlen, .inr ⟨w.heap.size, _, _, rfl, hbase, heap_alloc_new w.drew _, hge, hcm, ?_, ?_⟩⟩, ⟨rfl, rfl, rfl, by simp, fun k hk _ => Below.heap_alloc w.drew _ k hk⟩⟩
    · simp only [Array.size_append, List.size_toArray, size_zeroCells, hzs, hlen, ← Nat.add_mul]
      congr 1
      omega
    · simp only [Array.toList_append]
      rw [← hlen]
      exact List.take_left
  rcases hown.2 with ⟨rfl, rfl⟩ | ⟨g, cap, cur, rfl, hbg, hg, hnc, hcm, hcs, htake⟩
  · have hx : xs = [] := List.eq_nil_of_length_eq_zero (by simpa using hown.1)
    subst hx
    by_cases hm : m = 0
    · subst hm
      have hn : news = [] := List.eq_nil_of_length_eq_zero (by simpa using hl)
      subst hn
      refine ⟨.slice none 0 0, w, ?_, World.ownsRow_nil w base e i.size, ⟨rfl, rfl, rfl, Nat.le_refl _, fun _ _ _ => rfl⟩, .inl rfl, fun g cs T f hg => by cases hg⟩
      rcases hs.kind with ⟨e', hk⟩ | hk <;> simp [Builtin.append_, run_underlying ht, run_underlying hk, sizeOf, typeInfo, hi, hs.len, hs.cells]
    · have hr := run_append_grow_src (P := P) w t tx ty e i z ht hi hz none 0 0 [] (by simp [Builtin.firstCells]) x m news hs (by omega) (by omega) (growslice_fits (by omega) (by have hb := hbytes; simp only [Nat.zero_add] at hb ⊢; exact hb))
      have hgr := grown 0 (by omega) (Value.ownBlock (.slice none 0 0))
      simp only [Nat.zero_add, List.nil_append] at hgr hr ⊢
      refine ⟨_, _, hr, hgr.1, hgr.2, .inr ⟨_, rfl, Nat.le_refl _⟩, ?_⟩
      first | exact fresh _ _ _ | (have := fresh; simpa using fresh _ _ _)
  · by_cases hroom : n + m ≤ cap
    · have hfit : n * i.size + news.length ≤ cur.size := by rw [hl, hcs, ← Nat.add_mul]; exact Nat.mul_le_mul_right _ hroom
      have hst := run_storeCells_at P g (n * i.size) e news 0 cur w hg (by simpa using hfit) hs.one
      simp only [Nat.add_zero] at hst
      have hr : (Builtin.append_ #[t, tx] ty #[.slice (some ⟨g, 0, none⟩) n cap, x]).run P w =
          .ok (.slice (some ⟨g, 0, none⟩) (n + m) cap) (w.setRow g (cur.toList.take (n * i.size) ++ news ++ cur.toList.drop (n * i.size + news.length)).toArray) := by
        rcases hs.kind with ⟨e', hk⟩ | hk <;> simp [Builtin.append_, run_underlying ht, run_underlying hk, sizeOf, typeInfo, hi, hs.len, hroom, hs.cells, Addr.add_lit, hst]
      refine ⟨_, _, hr, ⟨hlen, .inr ⟨g, cap, _, rfl, hbg, setRow_heap w g cur _ e _ hg, hroom, hcm, ?_, ?_⟩⟩, ⟨rfl, rfl, rfl, by simp, fun k _ hk => setRow_other w g k _ (fun e => hk (by simp [Value.ownBlock, e]))⟩, .inl rfl, fun g' cs T f hg' hc y hy => ?_⟩
      · simp only [List.size_toArray, List.length_append, List.length_take, List.length_drop, Array.length_toList]
        omega
      · rw [htake, ← hlen]
        exact List.take_left
      · simp only [Value.ownBlock, Option.some.injEq] at hg'
        subst hg'
        rw [setRow_heap w g cur _ e _ hg] at hc
        simp only [Option.some.injEq, Obj.cells.injEq] at hc
        rw [← hc.1] at hy
        rcases List.mem_append.1 hy with hy | hy
        · rcases List.mem_append.1 hy with hy | hy
          · exact hC g cur _ _ rfl hg y (List.mem_of_mem_take hy)
          · exact hCn y hy
        · exact hC g cur _ _ rfl hg y (List.mem_of_mem_drop hy)
    · have holds : ∀ j u, xs[j]? = some u → w.cell? ((⟨g, 0, none⟩ : Addr).add j) = some u := hown.cells (g := g) rfl
      have hold := run_firstCells_some (P := P) w.drew i.size n ⟨g, 0, none⟩ n cap xs hown.1 (by simpa using holds)
      have hr := run_append_grow_src (P := P) w t tx ty e i z ht hi hz (some ⟨g, 0, none⟩) n cap xs hold x m news hs (by omega) (by omega) (growslice_fits (by omega) hbytes)
      have hgr := grown cap (by omega) (Value.ownBlock (.slice (some ⟨g, 0, none⟩) n cap))
      refine ⟨_, _, hr, hgr.1, hgr.2, .inr ⟨_, rfl, Nat.le_refl _⟩, ?_⟩
      first | exact fresh _ _ _ | (have := fresh; simpa using fresh _ _ _)
theorem wp_append_own_src3 {o : Oper} {a : Act} {K : Act → World → Prop} {Q : Exit → Act → World → Prop} (s x : Operand) (t tx : TypeId)
    (ho : o.op = .call { callee := .builtin .append, args := #[s, x], argTypes := #[t, tx] })
    (base : Nat) (e : TypeId) (i : TypeInfo) (z : Value) (size bytes : Nat) (ht : P.underlying t = some (.slice e)) (hi : P.info? e = some i) (hz : i.zero = some z)
    (hsize : i.size = size) (hby : i.bytes = bytes) (hzs : z.cells.size = size)
    (v : Value) (n : Nat) (xs : List Value) (hs : a.eval s = v) (hown : w.ownsRow base e size v n xs) (y : Value) (m : Nat) (news : List Value) (hx : a.eval x = y) (hsrc : Src P size tx y m news w)
    (h63 : n + m ≤ maxLen) (hbytes : (n + m) * bytes ≤ 140737488355328) (hbase : base ≤ w.heap.size) (C : Value → Prop) (hC : CleanBlk C w v) (hCn : ∀ y ∈ news, C y) (hCz : ∀ y ∈ z.cells.toList, C y)
    (h : ∀ v' w', w'.ownsRow base e size v' (n + m) (xs ++ news) → w.grownBy w' v.ownBlock → (v'.ownBlock = v.ownBlock ∨ ∃ g, v'.ownBlock = some g ∧ w.heap.size ≤ g) → CleanBlk C w' v' → K (a.put o.dst v') w') : o.wp P a w K Q := by
  obtain ⟨v', w', hr, h2, h3, h4, h5⟩ := run_append_own_src3 (P := P) w base t tx o.type e i z size bytes ht hi hz hsize hby hzs v n xs hown y m news hsrc h63 hbytes hbase C hC hCn hCz
  unfold Oper.wp execOp
  simp only [ho, resolve, invoke, builtin, Sem.run_bind, Sem.run_pure, Result.andThen_ok, List.map_toArray, List.map_cons, List.map_nil, hs, hx, hr]
  exact h v' w' h2 h3 h4 h5
theorem wpList_append_own_src3 {ops : Array Oper} {rest : List Oper} {o : Oper} {a : Act} {Q : Exit → Act → World → Prop} (hgd : o.guard = none) (s x : Operand) (t tx : TypeId)
    (ho : o.op = .call { callee := .builtin .append, args := #[s, x], argTypes := #[t, tx] })
    (base : Nat) (e : TypeId) (i : TypeInfo) (z : Value) (size bytes : Nat) (ht : P.underlying t = some (.slice e)) (hi : P.info? e = some i) (hz : i.zero = some z)
    (hsize : i.size = size) (hby : i.bytes = bytes) (hzs : z.cells.size = size)
    (v : Value) (n : Nat) (xs : List Value) (hs : a.eval s = v) (hown : w.ownsRow base e size v n xs) (y : Value) (m : Nat) (news : List Value) (hx : a.eval x = y) (hsrc : Src P size tx y m news w)
    (h63 : n + m ≤ maxLen) (hbytes : (n + m) * bytes ≤ 140737488355328) (hbase : base ≤ w.heap.size) (C : Value → Prop) (hC : CleanBlk C w v) (hCn : ∀ y ∈ news, C y) (hCz : ∀ y ∈ z.cells.toList, C y)
    (h : ∀ v' w', w'.ownsRow base e size v' (n + m) (xs ++ news) → w.grownBy w' v.ownBlock → (v'.ownBlock = v.ownBlock ∨ ∃ g, v'.ownBlock = some g ∧ w.heap.size ≤ g) → CleanBlk C w' v' → wpList P ops Q rest (a.put o.dst v') w') : wpList P ops Q (o :: rest) a w :=
  wpList_plain hgd fun _ hK => wp_append_own_src3 w s x t tx ho base e i z size bytes ht hi hz hsize hby hzs v n xs hs hown y m news hx hsrc h63 hbytes hbase C hC hCn hCz fun v' w' h2 h3 h4 h5 => hK _ _ (h v' w' h2 h3 h4 h5)
end
end Go.Proofs.Ytdbdnfjgmdkneaa
namespace Go.Proofs.Ytdbdnfjgmdkneaa
set_option maxRecDepth 20000
open Go.RowKit Go.Deep
set_option linter.unusedVariables false
/-- Ints as a source of append. -/
theorem Ints.src {w : World} {a : Option Addr} {n c : Nat} {l : List Int} (h : Ints w (.slice a n c) l) : Src Try.prog 1 76 (.slice a n c) n (i64vs l) w := by
  obtain ⟨hn, hc⟩ := h.cell
  rcases Nat.eq_zero_or_pos n with h0 | h0
  · subst h0
    have : l = [] := List.eq_nil_of_length_eq_zero hn.symm
    subst this
    cases a with
    | none => exact Src.ofNil w Try.underlying76 c
    | some p => exact Src.ofSlice w Try.underlying76 p 0 c [] rfl (by simp) (by simp)
  · obtain ⟨b, off, rfl, hb, hcell⟩ := hc h0
    exact ints_src hn.symm hcell
end Go.Proofs.Ytdbdnfjgmdkneaa
namespace Go.Proofs.Ytdbdnfjgmdkneaa
set_option maxRecDepth 20000
open Go.RowKit
set_option linter.unusedVariables false
/-- Nothing is written but blocks of D, and new ones. -/
structure Fr (D : Nat → Prop) (w w' : World) : Prop where
  os : w'.os = w.os
  tape : w'.tape = w.tape
  output : w'.output = w.output
  size : w.heap.size ≤ w'.heap.size
  away : ∀ i, i < w.heap.size → ¬ D i → w'.heap[i]? = w.heap[i]?
theorem Fr.refl (D : Nat → Prop) (w : World) : Fr D w w := ⟨rfl, rfl, rfl, Nat.le_refl _, fun _ _ _ => rfl⟩
theorem Fr.ext {D : Nat → Prop} {w w' : World} (h : w.Extends w') : Fr D w w' := ⟨h.os, h.tape, h.output, h.size, fun i hi _ => h.block i hi⟩
theorem Fr.grown {D : Nat → Prop} {w w' : World} {r : Option Nat} (h : w.grownBy w' r) (hr : ∀ g, r = some g → D g) : Fr D w w' := ⟨h.os, h.tape, h.output, h.size, fun i hi hD => h.block i hi (fun e => hD (hr i e.symm))⟩
theorem Fr.mono {D D' : Nat → Prop} {w w' : World} (h : Fr D w w') (hD : ∀ i, D i → D' i) : Fr D' w w' := ⟨h.os, h.tape, h.output, h.size, fun i hi hn => h.away i hi (fun e => hn (hD i e))⟩
/-- D, and the blocks made since. -/
def Nx (D : Nat → Prop) (w w' : World) : Nat → Prop := fun i => D i ∨ (w.heap.size ≤ i ∧ i < w'.heap.size)
theorem Fr.trans {D D' : Nat → Prop} {a b c : World} (h : Fr D a b) (k : Fr D' b c) (hD : ∀ i, i < a.heap.size → D' i → D i) : Fr D a c :=
  ⟨k.os.trans h.os, k.tape.trans h.tape, k.output.trans h.output, Nat.le_trans h.size k.size, fun i hi hn => (k.away i (Nat.lt_of_lt_of_le hi h.size) (fun hd => hn (hD i hi hd))).trans (h.away i hi hn)⟩
theorem Fr.next {D : Nat → Prop} {a b c : World} (h : Fr D a b) (k : Fr (Nx D a b) b c) : Fr D a c := h.trans k fun i hi hd => by
  rcases hd with hd | hd
  · exact hd
  · omega
theorem Nx.next {D : Nat → Prop} {a b c : World} (h : a.heap.size ≤ b.heap.size) (k : b.heap.size ≤ c.heap.size) {i : Nat} (hd : Nx (Nx D a b) b c i) : Nx D a c i := by
  rcases hd with (hd | hd) | hd
  · exact .inl hd
  · exact .inr (by omega)
  · exact .inr (by omega)
/-- All blocks of type T stay. -/
def Still (T : TypeId) (w w' : World) : Prop := ∀ (i : Nat) (cs : Array Value) (f : Nat × Nat), w.heap[i]? = some (.cells cs T f) → w'.heap[i]? = w.heap[i]?
theorem Still.refl (T : TypeId) (w : World) : Still T w w := fun _ _ _ _ => rfl
theorem Still.ext {T : TypeId} {w w' : World} (h : w.Extends w') : Still T w w' := fun i cs f hi => h.block i (Array.getElem?_eq_some_iff.1 hi).1
theorem Still.trans {T : TypeId} {a b c : World} (h : Still T a b) (k : Still T b c) : Still T a c := fun i cs f hi => (k i cs f ((h i cs f hi).trans hi)).trans (h i cs f hi)
theorem Still.grown {T T' : TypeId} {w w' : World} {g : Nat} {cs : Array Value} {f : Nat × Nat} (h : w.grownBy w' (some g)) (hg : w.heap[g]? = some (.cells cs T' f)) (hT : T' ≠ T) : Still T w w' := fun i ci fi hi => h.block i (Array.getElem?_eq_some_iff.1 hi).1 (fun e => by
  have e' := Option.some.inj e
  subst e'
  rw [hi] at hg
  simp only [Option.some.injEq, Obj.cells.injEq] at hg
  exact hT hg.2.1.symm)
theorem Still.map {T : TypeId} {w w' : World} {g : Nat} {es : Array MapEntry} {c : Nat} (h : w.grownBy w' (some g)) (hg : w.heap[g]? = some (.map es c)) : Still T w w' := fun i ci fi hi => h.block i (Array.getElem?_eq_some_iff.1 hi).1 (fun e => by
  have e' := Option.some.inj e
  subst e'
  rw [hi] at hg
  cases hg)
end Go.Proofs.Ytdbdnfjgmdkneaa
namespace Go.Proofs.Ytdbdnfjgmdkneaa
set_option maxRecDepth 20000
open Go.RowKit Go.Deep
set_option linter.unusedVariables false
/-- Eight cells: a letter's variable. -/
def L8 (w : World) (b : Nat) (l : List Value) : Prop := w.heap[b]? = some (.cells l.toArray 83)
theorem L8.cell {w : World} {b : Nat} {l : List Value} (h : L8 w b l) (i : Nat) (v : Value) (hv : l[i]? = some v) : w.cell? ⟨b, i, none⟩ = some v := by
  rw [cell_of_row _ _ _ _ _ _ h, List.getElem?_toArray]; exact hv
theorem L8.frozen {w : World} {b : Nat} {l : List Value} (h : L8 w b l) (i : Nat) : w.frozen? ⟨b, i, none⟩ = false := frozen_of_row _ _ _ _ _ h
theorem L8.set {w : World} {b : Nat} {l : List Value} (h : L8 w b l) (i : Nat) (v : Value) : L8 (w.setCell ⟨b, i, none⟩ v) b (l.set i v) := by
  unfold L8 at *
  rw [heap_setCell_same _ _ _ _ _ _ h, List.setIfInBounds_toArray]
theorem L8.kept {w w' : World} {b t : Nat} {l : List Value} (h : L8 w b l) (hg : w.grownBy w' (some t)) (hne : b ≠ t) : L8 w' b l := by
  unfold L8 at *
  rw [hg.block b (Array.getElem?_eq_some_iff.1 h).1 (by simpa using hne)]; exact h
theorem L8.grown {w w' : World} {b : Nat} {o : Option Nat} {l : List Value} (h : L8 w b l) (hg : w.grownBy w' o) (hne : o ≠ some b) : L8 w' b l := by
  unfold L8 at *
  rw [hg.block b (Array.getElem?_eq_some_iff.1 h).1 (fun e => hne e.symm)]; exact h
theorem L8.ext {w w' : World} {b : Nat} {l : List Value} (h : L8 w b l) (hx : w.Extends w') : L8 w' b l := by
  unfold L8 at *
  rw [hx.block b (Array.getElem?_eq_some_iff.1 h).1]; exact h
theorem L8.away {w w' : World} {b : Nat} {D : Nat → Prop} {l : List Value} (h : L8 w b l) (hx : Fr D w w') (hb : ¬ D b) : L8 w' b l := by
  unfold L8 at *
  rw [hx.away b (Array.getElem?_eq_some_iff.1 h).1 hb]; exact h
theorem L8.lt {w : World} {b : Nat} {l : List Value} (h : L8 w b l) : b < w.heap.size := (Array.getElem?_eq_some_iff.1 h).1
theorem L8.new (w : World) (l : List Value) : L8 (w.alloc (.cells l.toArray 83)) w.heap.size l := heap_alloc_new _ _
theorem L8.all {w : World} {b : Nat} {a0 a1 a2 a3 a4 a5 a6 a7 : Value} (h : L8 w b [a0, a1, a2, a3, a4, a5, a6, a7]) :
    w.cell? ⟨b, 0, none⟩ = some a0 ∧ w.cell? ⟨b, 1, none⟩ = some a1 ∧ w.cell? ⟨b, 2, none⟩ = some a2 ∧ w.cell? ⟨b, 3, none⟩ = some a3 ∧ w.cell? ⟨b, 4, none⟩ = some a4 ∧ w.cell? ⟨b, 5, none⟩ = some a5 ∧ w.cell? ⟨b, 6, none⟩ = some a6 ∧ w.cell? ⟨b, 7, none⟩ = some a7 :=
  ⟨h.cell 0 _ rfl, h.cell 1 _ rfl, h.cell 2 _ rfl, h.cell 3 _ rfl, h.cell 4 _ rfl, h.cell 5 _ rfl, h.cell 6 _ rfl, h.cell 7 _ rfl⟩
/-- All eight cells are written. -/
theorem L8.fill {w wf : World} {b : Nat} {a0 a1 a2 a3 a4 a5 a6 a7 c0 c1 c2 c3 c4 c5 c6 c7 : Value} (h : L8 w b [a0, a1, a2, a3, a4, a5, a6, a7])
    (hw : wf = (((((((w.setCell ⟨b, 0, none⟩ c0).setCell ⟨b, 1, none⟩ c1).setCell ⟨b, 2, none⟩ c2).setCell ⟨b, 3, none⟩ c3).setCell ⟨b, 4, none⟩ c4).setCell ⟨b, 5, none⟩ c5).setCell ⟨b, 6, none⟩ c6).setCell ⟨b, 7, none⟩ c7) :
    w.grownBy wf (some b) ∧ L8 wf b [c0, c1, c2, c3, c4, c5, c6, c7] := by
  subst hw
  exact ⟨(((((((grown_set w b 0 c0).trans (grown_set _ b 1 c1)).trans (grown_set _ b 2 c2)).trans (grown_set _ b 3 c3)).trans (grown_set _ b 4 c4)).trans (grown_set _ b 5 c5)).trans (grown_set _ b 6 c6)).trans (grown_set _ b 7 c7),
    (((((((h.set 0 c0).set 1 c1).set 2 c2).set 3 c3).set 4 c4).set 5 c5).set 6 c6).set 7 c7⟩
theorem L8.still {w : World} {b : Nat} {a0 a1 a2 a3 a4 a5 a6 a7 : Value} (h : L8 w b [a0, a1, a2, a3, a4, a5, a6, a7]) :
    w.frozen? ⟨b, 0, none⟩ = false ∧ w.frozen? ⟨b, 1, none⟩ = false ∧ w.frozen? ⟨b, 2, none⟩ = false ∧ w.frozen? ⟨b, 3, none⟩ = false ∧ w.frozen? ⟨b, 4, none⟩ = false ∧ w.frozen? ⟨b, 5, none⟩ = false ∧ w.frozen? ⟨b, 6, none⟩ = false ∧ w.frozen? ⟨b, 7, none⟩ = false :=
  ⟨h.frozen 0, h.frozen 1, h.frozen 2, h.frozen 3, h.frozen 4, h.frozen 5, h.frozen 6, h.frozen 7⟩
/-- A letter's value, of these slices. -/
def Lt.val (l : Lt) (vp vr : Value) : Value := .agg #[.int .i64 l.k, .int .i64 l.f, .int .i64 l.t, .int .i64 l.g, .int .i64 l.p, .int .i64 l.n, vp, vr]
/-- The slices read as the letter's peers and records. -/
def LetV (w : World) (vp vr : Value) (l : Lt) : Prop := Ints w vp l.ps ∧ Recs w vr l.rs
theorem LetV.ext {w w' : World} {vp vr : Value} {l : Lt} (h : LetV w vp vr l) (hx : w.Extends w') : LetV w' vp vr l := ⟨h.1.ext hx, h.2.ext hx⟩
theorem LetV.parts {w : World} {vp vr : Value} {l : Lt} (h : LetV w vp vr l) : ∃ a c a' c', vp = .slice a l.ps.length c ∧ vr = .slice a' l.rs.length c' := by
  obtain ⟨a, c, h1, _⟩ := h.1.slice
  obtain ⟨a', c', h2⟩ := h.2.slice
  exact ⟨a, c, a', c', h1, h2⟩
end Go.Proofs.Ytdbdnfjgmdkneaa
