/- A log as pieces of bytes: how many bytes it has, how it is spelled, and which whole pieces lie in its first bytes. -/
import Derived.Test.YteogahofcmgddaaRecMath
namespace Go.Proofs.Yteogahofcmgddaa
set_option maxRecDepth 20000
set_option linter.unusedVariables false
namespace LM
/-- How many bytes pieces have in a log. -/
def size : List (List Nat) → Nat
  | [] => 0
  | p :: l => 2 + p.length + size l
theorem size_append : ∀ (a b : List (List Nat)), size (a ++ b) = size a + size b
  | [], b => by simp [size]
  | p :: a, b => by simp only [List.cons_append, size, size_append a b]; omega
theorem size_snoc (l : List (List Nat)) (p : List Nat) : size (l ++ [p]) = size l + 2 + p.length := by
  rw [size_append]; simp only [size]; omega
theorem size_reverse : ∀ (l : List (List Nat)), size l.reverse = size l
  | [] => rfl
  | p :: l => by rw [List.reverse_cons, size_snoc, size_reverse l]; simp only [size]; omega
/-- A piece's bytes: its length, then it. -/
def enc (p : List Nat) : List Nat := KM.nb 2 p.length ++ p
theorem enc_length (p : List Nat) : (enc p).length = 2 + p.length := by simp [enc, KM.nb_length]
def spell : List (List Nat) → List Nat
  | [] => []
  | p :: l => enc p ++ spell l
theorem spell_append : ∀ (a b : List (List Nat)), spell (a ++ b) = spell a ++ spell b
  | [], b => by simp [spell]
  | p :: a, b => by simp only [List.cons_append, spell, spell_append a b, List.append_assoc]
theorem spell_snoc (l : List (List Nat)) (p : List Nat) : spell (l ++ [p]) = spell l ++ KM.nb 2 p.length ++ p := by
  rw [spell_append]; simp [spell, enc]
theorem spell_length : ∀ (l : List (List Nat)), (spell l).length = size l
  | [] => rfl
  | p :: l => by simp only [spell, size, List.length_append, enc_length, spell_length l]
/-- Pieces that may be: no longer than 65535, of bytes. -/
def Fine (l : List (List Nat)) : Prop := ∀ p ∈ l, p.length ≤ 65535 ∧ ∀ y ∈ p, y < 256
theorem Fine.nil : Fine [] := fun p h => by cases h
theorem Fine.snoc {l : List (List Nat)} {p : List Nat} (h : Fine l) (hp : p.length ≤ 65535) (hb : ∀ y ∈ p, y < 256) : Fine (l ++ [p]) := fun q hq => by
  rcases List.mem_append.1 hq with hq | hq
  · exact h q hq
  · obtain rfl : q = p := by simpa using hq
    exact ⟨hp, hb⟩
theorem Fine.left {a b : List (List Nat)} (h : Fine (a ++ b)) : Fine a := fun p hp => h p (List.mem_append_left _ hp)
theorem Fine.spell_lt : ∀ {l : List (List Nat)}, Fine l → ∀ y ∈ spell l, y < 256
  | [], _, y, hy => by cases hy
  | p :: l, h, y, hy => by
    simp only [spell, enc, List.append_assoc, List.mem_append] at hy
    rcases hy with hy | hy | hy
    · exact KM.nb_lt _ _ _ hy
    · exact (h p List.mem_cons_self).2 y hy
    · exact Fine.spell_lt (fun q hq => h q (List.mem_cons_of_mem _ hq)) y hy
/-- The whole pieces in the first m bytes. -/
def upto : Nat → List (List Nat) → List (List Nat)
  | _, [] => []
  | m, p :: l => if 2 + p.length ≤ m then p :: upto (m - (2 + p.length)) l else []
theorem upto_pre : ∀ (m : Nat) (l : List (List Nat)), ∃ r, l = upto m l ++ r
  | m, [] => ⟨[], rfl⟩
  | m, p :: l => by
    unfold upto
    split
    · obtain ⟨r, hr⟩ := upto_pre (m - (2 + p.length)) l
      exact ⟨r, by rw [List.cons_append, ← hr]⟩
    · exact ⟨p :: l, rfl⟩
theorem upto_take (m : Nat) (l : List (List Nat)) : upto m l = l.take (upto m l).length := by
  obtain ⟨r, hr⟩ := upto_pre m l
  have h : (upto m l ++ r).take (upto m l).length = upto m l := List.take_left
  rw [← hr] at h
  exact h.symm
theorem upto_fine {m : Nat} {l : List (List Nat)} (h : Fine l) : Fine (upto m l) := by
  obtain ⟨r, hr⟩ := upto_pre m l
  rw [hr] at h; exact h.left
theorem upto_size : ∀ (m : Nat) (l : List (List Nat)), size (upto m l) ≤ m
  | m, [] => Nat.zero_le _
  | m, p :: l => by
    unfold upto
    split
    · have := upto_size (m - (2 + p.length)) l
      simp only [size]; omega
    · exact Nat.zero_le _
theorem upto_le (m : Nat) (l : List (List Nat)) : size (upto m l) ≤ size l := by
  obtain ⟨r, hr⟩ := upto_pre m l
  have : size l = size (upto m l ++ r) := by rw [← hr]
  rw [size_append] at this; omega
theorem upto_all : ∀ {m : Nat} {l : List (List Nat)}, size l ≤ m → upto m l = l
  | m, [], _ => rfl
  | m, p :: l, h => by
    simp only [size] at h
    unfold upto
    rw [if_pos (by omega), upto_all (by omega)]
/-- A last piece that does not fit. -/
theorem upto_snoc : ∀ {m : Nat} {l : List (List Nat)} {p : List Nat}, m < size (l ++ [p]) → upto m (l ++ [p]) = upto m l
  | m, [], p, h => by
    simp only [List.nil_append, size] at h ⊢
    unfold upto
    rw [if_neg (by omega)]
  | m, q :: l, p, h => by
    simp only [List.cons_append, size] at h ⊢
    unfold upto
    split
    · rw [upto_snoc (by omega)]
    · rfl
theorem upto_append : ∀ (c : Nat) (a b : List (List Nat)), upto (size a + c) (a ++ b) = a ++ upto c b
  | c, [], b => by simp [size]
  | c, p :: a, b => by
    simp only [List.cons_append, size]
    conv => lhs; unfold upto
    rw [if_pos (by omega), show 2 + p.length + size a + c - (2 + p.length) = size a + c by omega, upto_append c a b]
theorem upto_cap (k : Nat) (b : List (List Nat)) : upto (min k (size b)) b = upto k b := by
  rcases Nat.le_total k (size b) with h | h
  · rw [Nat.min_eq_left h]
  · rw [Nat.min_eq_right h, upto_all (Nat.le_refl _), upto_all h]
theorem spell_upto (m : Nat) (l : List (List Nat)) : (spell l).take (size (upto m l)) = spell (upto m l) := by
  obtain ⟨r, hr⟩ := upto_pre m l
  have e : spell l = spell (upto m l) ++ spell r := by rw [← spell_append, ← hr]
  rw [e, ← spell_length]
  exact List.take_left
/-- What is left to be read behind these pieces. -/
theorem at_rest (done rest : List (List Nat)) (m : Nat) : ((spell (done ++ rest)).take m).drop (size done) = (spell rest).take (m - size done) := by
  rw [spell_append, List.drop_take, ← spell_length done, List.drop_left]
theorem nb2 (n : Nat) (h : n ≤ 65535) : KM.nb 2 n = [n / 256, n % 256] := by
  have h1 : n / 256 % 256 = n / 256 := Nat.mod_eq_of_lt (by omega)
  simp [KM.nb, h1]
theorem getD_drop0 (xs : List Nat) (n j : Nat) : xs.getD (n + j) 0 = (xs.drop n).getD j 0 := by
  simp [List.getD_eq_getElem?_getD]
/-- The two bytes of a length. -/
theorem at_num {done rest : List (List Nat)} {p : List Nat} {m : Nat} (hp : p.length ≤ 65535) (hm : size done + 2 ≤ m) :
    ((spell (done ++ p :: rest)).take m).getD (size done) 0 = p.length / 256 ∧ ((spell (done ++ p :: rest)).take m).getD (size done + 1) 0 = p.length % 256 := by
  have h := at_rest done (p :: rest) m
  have e : spell (p :: rest) = p.length / 256 :: p.length % 256 :: (p ++ spell rest) := by
    show enc p ++ spell rest = _
    rw [enc, nb2 _ hp]; rfl
  obtain ⟨c, hc⟩ : ∃ c, m - size done = c + 2 := ⟨m - size done - 2, by omega⟩
  rw [e, hc] at h
  constructor
  · have h0 := getD_drop0 ((spell (done ++ p :: rest)).take m) (size done) 0
    rw [Nat.add_zero] at h0
    rw [h0, h]; rfl
  · rw [getD_drop0, h]; rfl
/-- The bytes of a piece. -/
theorem at_piece {done rest : List (List Nat)} {p : List Nat} {m : Nat} (hm : size done + 2 + p.length ≤ m) :
    (((spell (done ++ p :: rest)).take m).take (size done + 2 + p.length)).drop (size done + 2) = p := by
  rw [List.take_take, Nat.min_eq_left hm]
  have h := at_rest done (p :: rest) (size done + 2 + p.length)
  rw [← List.drop_drop, h, show size done + 2 + p.length - size done = (enc p).length by rw [enc_length]; omega]
  show ((enc p ++ spell rest).take (enc p).length).drop 2 = p
  rw [List.take_left, enc]
  exact List.drop_left' (KM.nb_length _ _)
/-- Going on behind a whole piece. -/
theorem upto_next {done rest : List (List Nat)} {p : List Nat} {m : Nat} (hm : size done + 2 + p.length ≤ m) :
    done ++ upto (m - size done) (p :: rest) = (done ++ [p]) ++ upto (m - size (done ++ [p])) rest := by
  rw [size_snoc]
  conv => lhs; unfold upto
  rw [if_pos (by omega), List.append_assoc, show m - size done - (2 + p.length) = m - (size done + 2 + p.length) by omega]
  rfl
theorem upto_stop {p : List Nat} {rest : List (List Nat)} {c : Nat} (h : c < 2 + p.length) : upto c (p :: rest) = [] := by
  unfold upto; rw [if_neg (by omega)]
theorem upto_few {rest : List (List Nat)} {c : Nat} (h : c < 2) : upto c rest = [] := by
  cases rest with
  | nil => rfl
  | cons p rest => exact upto_stop (by omega)
/-- How many bytes a crash leaves ahead of the cut to whole pieces. -/
def keep (s : Nat) (k : Int) (z : Nat) : Nat := s + min k.toNat (z - s)
theorem keep_le {s z : Nat} (k : Int) (h : s ≤ z) : keep s k z ≤ z := by unfold keep; omega
theorem keep_ge (s : Nat) (k : Int) (z : Nat) : s ≤ keep s k z := by unfold keep; omega
end LM
end Go.Proofs.Yteogahofcmgddaa
