/- In one text: SplLaw, SeeTells, DroLive, DroTells, BlkLaw, ObjNew, ObjRefNew, Ap, Append2, GrowR. -/
import Derived.Lib.SlBytesConst
import Derived.Handy
import Derived.Lib.Hide
import Derived.Test.YtippckajlghimaaGreatDoorM1
import Derived.Test.YtippckajlghimaaGreatDoorM2
import Derived.Test.YtippckajlghimaaGreatDoorM5
import Derived.Test.YtippckajlghimaaGreatDoorM13
import Derived.Test.YtippckajlghimaaGreatDoorM14
import Derived.Test.YtippckajlghimaaGreatDoorM15
import Derived.Test.YtippckajlghimaaGreatDoorM16
import Derived.Test.YtippckajlghimaaGreatDoorM17
import Derived.Test.YtippckajlghimaaGreatDoorM18
import Derived.Test.YtippckajlghimaaGreatDoorM19
/- The twelfth law: num, alive; what both programs answer of any shape, of any data, of any blocks. -/
namespace Go.Proofs.YtippckajlghimaaGreatDoor
set_option maxRecDepth 20000
open Go.RowKit Go.Deep
set_option linter.unusedVariables false
/-- What both programs answer of a shape. -/
structure Asked12 (b s m i : Int) (r : Bool) (y n k : Nat) : Prop where
  rp : ∀ w, Calls Tryz.prog 29 #[PV b s m] w fun e w' => e = .returned (.bool r) ∧ w.Extends w'
  rr : ∀ w, Calls Tryz.prog 35 #[PV b s m] w fun e w' => e = .returned (.bool r) ∧ w.Extends w'
  yp : ∀ w, Calls Tryz.prog 55 #[PV b s m] w fun e w' => e = .returned (.int .i64 (y : Nat)) ∧ w.Extends w'
  yr : ∀ w, Calls Tryz.prog 38 #[PV b s m] w fun e w' => e = .returned (.int .i64 (y : Nat)) ∧ w.Extends w'
  np : ∀ w, Calls Tryz.prog 30 #[PV b s m] w fun e w' => e = .returned (.int .i64 (n : Nat)) ∧ w.Extends w'
  nr : ∀ w, Calls Tryz.prog 18 #[PV b s m] w fun e w' => e = .returned (.int .i64 (n : Nat)) ∧ w.Extends w'
  kp : ∀ w, Calls Tryz.prog 33 #[PV b s m, .int .i64 i] w fun e w' => e = .returned (.int .i64 (k : Nat)) ∧ w.Extends w'
  kr : ∀ w, Calls Tryz.prog 20 #[PV b s m, .int .i64 i] w fun e w' => e = .returned (.int .i64 (k : Nat)) ∧ w.Extends w'
theorem right_nat {b s m : Int} (h : CM.Right b s m) : ∃ B S M : Nat, b = B ∧ s = S ∧ m = M := by
  obtain ⟨h1, h2, h3, h4, h5, h6⟩ := h
  exact ⟨b.toNat, s.toNat, m.toNat, by omega, by omega, by omega⟩
theorem asked12 (b s m i : Int) : ∃ r y n k, Asked12 b s m i r y n k := by
  by_cases h : CM.Right b s m
  · obtain ⟨B, S, M, rfl, rfl, rfl⟩ := right_nat h
    by_cases hi : 0 ≤ i ∧ i < CM.bl B S M
    · obtain ⟨I, rfl⟩ := Int.eq_ofNat_of_zero_le hi.1
      exact ⟨true, _, _, _, fun w => right_yes _ _ _ w h, fun w => rright_yes _ _ _ w h, fun w => sym_yes _ _ _ w h, fun w => rsym_yes _ _ _ w h, fun w => blocks_yes _ _ _ w h, fun w => rblocks_yes _ _ _ w h, fun w => k_in B S M I w h (by omega), fun w => rk_in B S M I w h (by omega)⟩
    · refine ⟨true, _, _, 0, fun w => right_yes _ _ _ w h, fun w => rright_yes _ _ _ w h, fun w => sym_yes _ _ _ w h, fun w => rsym_yes _ _ _ w h, fun w => blocks_yes _ _ _ w h, fun w => rblocks_yes _ _ _ w h, fun w => ?_, fun w => ?_⟩
      · by_cases h0 : i < 0
        · exact k_neg _ _ _ i w h0
        · exact k_over B S M i w h (by omega)
      · by_cases h0 : i < 0
        · exact rk_neg _ _ _ i w h0
        · exact rk_over B S M i w h (by omega)
  · refine ⟨false, 0, 0, 0, fun w => right_no _ _ _ w h, fun w => rright_no _ _ _ w h, fun w => sym_no _ _ _ w h, fun w => rsym_no _ _ _ w h, fun w => blocks_no _ _ _ w h, fun w => rblocks_no _ _ _ w h, fun w => ?_, fun w => ?_⟩
    · by_cases h0 : i < 0
      · exact k_neg _ _ _ i w h0
      · exact k_wrong _ _ _ i w h (by omega)
    · by_cases h0 : i < 0
      · exact rk_neg _ _ _ i w h0
      · exact rk_wrong _ _ _ i w h (by omega)
theorem asked12_cut (b s m : Int) (xs : List Nat) : ∃ er L, (∀ v w, U8s w v xs → Calls Tryz.prog 21 #[PV b s m, v] w (CutOut w er L)) ∧ (∀ v w, U8s w v xs → Calls Tryz.prog 23 #[PV b s m, v] w (CutOut w er L)) ∧
    L.length ≤ 4000 ∧ ∀ k, (L.getD k []).length ≤ 40 := by
  by_cases h : CM.Right b s m
  · obtain ⟨B, S, M, rfl, rfl, rfl⟩ := right_nat h
    obtain ⟨h1, h2, h3, h4, h5, h6⟩ := CM.right_of h
    by_cases hl : xs.length = B
    · refine ⟨0, _, fun v w hv => cut_some B S M v xs w h hl hv, fun v w hv => rcut_some B S M v xs w h hl hv, ?_, fun k => ?_⟩
      · rw [CM.cut_length]; have := CM.bl_le B S M; have := CM.sy_le B S h1; omega
      · by_cases hk : k < CM.bl B S M
        · rw [CM.cut_at _ _ _ _ _ hk, CM.blk_length]; exact Nat.le_trans (CM.kk_le B S M k h5) h6
        · rw [List.getD_eq_getElem?_getD, List.getElem?_eq_none (by rw [CM.cut_length]; omega)]; simp
    · exact ⟨10, [], fun v w hv => cut_other B S M v xs w h hl hv, fun v w hv => rcut_other B S M v xs w h hl hv, by simp, fun k => by simp⟩
  · exact ⟨1, [], fun v w hv => cut_wrong b s m v w h, fun v w hv => rcut_wrong b s m v w h, by simp, fun k => by simp⟩
theorem asked12_join (b s m : Int) (L : List (List (List Nat))) : ∃ er xs, (∀ v w, RwsL w v L → Calls Tryz.prog 34 #[PV b s m, v] w (JoinOut w er xs)) ∧ (∀ v w, RwsL w v L → Calls Tryz.prog 37 #[PV b s m, v] w (JoinOut w er xs)) := by
  by_cases h : CM.Right b s m
  · obtain ⟨B, S, M, rfl, rfl, rfl⟩ := right_nat h
    by_cases hf : CM.Fit B S M L
    · exact ⟨0, _, fun v w hv => (join_any B S M v L w h hv).mono fun e w' h => h.1 hf, fun v w hv => (rjoin_any B S M v L w h hv).mono fun e w' h => h.1 hf⟩
    · exact ⟨10, _, fun v w hv => (join_any B S M v L w h hv).mono fun e w' h => h.2 hf, fun v w hv => (rjoin_any B S M v L w h hv).mono fun e w' h => h.2 hf⟩
  · exact ⟨1, [], fun v w hv => join_wrong b s m v w h, fun v w hv => rjoin_wrong b s m v w h⟩
end Go.Proofs.YtippckajlghimaaGreatDoor
/- The ninth law: alive, and SeedTells. -/
namespace Go.Proofs.YtippckajlghimaaGreatDoor
set_option maxRecDepth 20000
open Go.RowKit Go.Deep
set_option linter.unusedVariables false
theorem seed_exists (n : Nat) : ∃ r er, SM.SeedIs n r er := by
  by_cases h : ∃ r, r < 256 ∧ SM.Good n r ∧ ∀ i, i < r → ¬ SM.Good n i
  · obtain ⟨r, h1, h2, h3⟩ := h
    exact ⟨r, 0, .inl ⟨rfl, h1, h2, h3⟩⟩
  · refine ⟨0, 5, .inr ⟨rfl, rfl, fun i => ?_⟩⟩
    induction i using Nat.strongRecOn with
    | ind i ih => exact fun hi hg => h ⟨i, hi, hg, fun m hm => ih m hm (by omega)⟩
/-- What both programs answer of any k. -/
theorem asked9 (k : Int) : ∃ r er : Nat, (∀ w, Tab w → Calls Tryz.prog 45 #[.int .i64 k] w fun e w' => e = .returned (.tuple #[.int .i64 r, .int .i64 er]) ∧ w.Extends w') ∧
    ∀ w, Calls Tryz.prog 39 #[.int .i64 k] w fun e w' => e = .returned (.tuple #[.int .i64 r, .int .i64 er]) ∧ w.Extends w' := by
  by_cases hk : k < 1 ∨ 40 < k
  · exact ⟨0, 1, fun w _ => find_none k w hk, fun w => refSeed_none k w hk⟩
  · obtain ⟨n, rfl⟩ := Int.eq_ofNat_of_zero_le (show 0 ≤ k by omega)
    obtain ⟨r, er, hr⟩ := seed_exists n
    refine ⟨r, er, fun w hT => ?_, fun w => ?_⟩
    · exact (find_some n w (by omega) (by omega) hT).mono fun e w' ⟨r', er', he, hr', hx⟩ => by
        obtain ⟨rfl, rfl⟩ := hr.uniq hr'
        exact ⟨he, hx⟩
    · exact (refSeed_some n w (by omega) (by omega)).mono fun e w' ⟨r', er', he, hr', hx⟩ => by
        obtain ⟨rfl, rfl⟩ := hr.uniq hr'
        exact ⟨he, hx⟩
end Go.Proofs.YtippckajlghimaaGreatDoor
/- The eighth law's alive. -/
namespace Go.Proofs.YtippckajlghimaaGreatDoor
set_option maxRecDepth 20000
open Go.RowKit Go.Deep
set_option linter.unusedVariables false
theorem mkLists (k : Nat) (hk : k ≤ 1000) (w : World) : (Instr.makeSlice 75 (.int .i64 (k : Int)) (.int .i64 (k : Int))).run Tryz.prog w = .ok (.slice (some ⟨w.heap.size, 0, none⟩) k k) (w.alloc (.cells (madeCells #[.slice none 0 0] k) 24)) :=
  run_make_row' (P := Tryz.prog) 75 24 (.slice none 0 0) 24 Tryz.underlying75 bytesinfo rfl .i64 .i64 k (by omega) (by omega) w
theorem nils_at (n k : Nat) : (List.replicate n ([] : List Nat)).getD k [] = [] := by
  rw [List.getD_eq_getElem?_getD, List.getElem?_replicate]; split <;> rfl
theorem nils_rws (w : World) (T : TypeId) (n : Nat) (hn : n ≤ 1000) : Rws (w.alloc (.cells (madeCells #[.slice none 0 0] n) T)) (.slice (some ⟨w.heap.size, 0, none⟩) n n) (List.replicate n []) := by
  have h := World.rowIs_made w (.slice none 0 0) n T
  refine .inr ⟨w.heap.size, 0, n, by rw [List.length_replicate], by rw [List.length_replicate]; exact Nat.le_refl _, by unfold maxLen; omega, by simp, fun k hk => ⟨.slice none 0 0, ?_, ?_⟩⟩
  · rw [List.length_replicate] at hk
    rw [Nat.zero_add]
    exact h.cell hk
  · rw [List.length_replicate] at hk
    rw [show (List.replicate n ([] : List Nat)).getD k [] = [] by simp [hk]]
    exact nil_u8s _ _ _
end Go.Proofs.YtippckajlghimaaGreatDoor
/- The first statement's function answers true. -/
namespace Go.Proofs.YtippckajlghimaaGreatDoor
set_option maxRecDepth 20000
open Go.RowKit Go.Deep
set_option linter.unusedVariables false
theorem conv_drow {w : World} {v : Value} {xs : List Nat} (h : U8s w v xs) : (convert 76 9 v).run Tryz.prog w = .ok (.string (strOf xs)) w := conv_any h _ _ _ Tryz.underlying76 Tryz.underlying5 Tryz.underlying9
end Go.Proofs.YtippckajlghimaaGreatDoor
/- What both programs answer of any size and rows; the tenth law's alive. -/
namespace Go.Proofs.YtippckajlghimaaGreatDoor
set_option maxRecDepth 20000
open Go.RowKit Go.Deep
set_option linter.unusedVariables false
/-- A block there is. -/
structure B10 (size : Int) (src : List (List Nat)) (k j sz : Nat) (c : List (List Nat)) : Prop where
  hs : size = (sz : Int)
  s1 : 1 ≤ sz
  s2 : sz ≤ 64
  hk : src.length = k
  k1 : 1 ≤ k
  k2 : k ≤ 40
  all : AllB size src
  seed : SM.SeedIs k j 0
  parts : BM.PartsIs k j sz src c
theorem B10.j {size : Int} {src c : List (List Nat)} {k j sz : Nat} (h : B10 size src k j sz c) : j ≤ 255 := by have := h.seed.lt; omega
theorem B10.len {size : Int} {src c : List (List Nat)} {k j sz : Nat} (h : B10 size src k j sz c) : c.length = PM.l k := h.parts.len
theorem B10.new {size : Int} {src c : List (List Nat)} {k j sz : Nat} (h : B10 size src k j sz c) (v : Value) (w : World) (hv : Rws w v src) (hT : Tab w) :
    Calls Tryz.prog 22 #[.int .i64 size, v] w (BNew w k j sz c) := by
  rw [h.hs]; exact new_some sz v src k w h.s1 h.s2 h.hk h.k1 h.k2 hv (h.hs ▸ h.all) hT j h.seed c h.parts
theorem B10.refNew {size : Int} {src c : List (List Nat)} {k j sz : Nat} (h : B10 size src k j sz c) (v : Value) (w : World) (hv : Rws w v src) :
    Calls Tryz.prog 24 #[.int .i64 size, v] w (RNew w k j sz c) := by
  rw [h.hs]; exact refNew_some sz v src k w h.s1 h.s2 h.hk h.k1 h.k2 hv (h.hs ▸ h.all) j h.seed c h.parts
theorem B10.symbol {size : Int} {src c : List (List Nat)} {k j sz : Nat} (h : B10 size src k j sz c) (b : Nat) (esi : Int) (v : Value) (w : World) (hb : BAt w b k (PM.s k) 2 j sz v) (hv : Rws w v c) (hT : Tab w) :
    Calls Tryz.prog 25 #[.pointer (some ⟨b, 0, none⟩), .int .i64 esi] w (SymOut w (symOf k j sz c esi) (symErr esi)) :=
  symbol_any b k j sz esi v c w h.k1 h.k2 h.j h.s1 h.s2 h.len hb hv hT
theorem B10.refSymbol {size : Int} {src c : List (List Nat)} {k j sz : Nat} (h : B10 size src k j sz c) (b : Nat) (esi : Int) (v : Value) (w : World) (hb : RAt w b k j sz v) (hv : Rws w v c) :
    Calls Tryz.prog 26 #[.pointer (some ⟨b, 0, none⟩), .int .i64 esi] w (SymOut w (symOf k j sz c esi) (symErr esi)) :=
  refSymbol_any b k j sz esi v c w h.k1 h.k2 h.j h.s1 h.s2 h.len hb hv
/-- No block, in both programs. -/
structure N10 (size : Int) (src : List (List Nat)) (err : Int) : Prop where
  new : ∀ v w, Rws w v src → Tab w → Calls Tryz.prog 22 #[.int .i64 size, v] w (NoBlock w err)
  refNew : ∀ v w, Rws w v src → Calls Tryz.prog 24 #[.int .i64 size, v] w (NoBlock w err)
/-- Where sizes and number are right: a block, or none for a row's size, or for the seed. -/
theorem asked10_fit (sz : Nat) (src : List (List Nat)) (hlt : ∀ r ∈ src, ∀ x ∈ r, x < 256) (s1 : 1 ≤ sz) (s2 : sz ≤ 64) (k1 : 1 ≤ src.length) (k2 : src.length ≤ 40) :
    (¬ AllB sz src ∧ N10 sz src 10) ∨ (AllB sz src ∧ (N10 sz src 5 ∧ SM.SeedIs src.length 0 5 ∨ ∃ j c, B10 sz src src.length j sz c)) := by
  by_cases ha : AllB sz src
  · refine .inr ⟨ha, ?_⟩
    obtain ⟨r, er, hr⟩ := seed_exists src.length
    rcases seed5 hr with rfl | rfl
    · have hg : SM.Good src.length r := by
        rcases hr with ⟨_, _, h, _⟩ | ⟨h, _⟩
        · exact h
        · cases h
      obtain ⟨c, hc⟩ := BM.parts_exist sz hg hlt
      exact .inr ⟨r, c, ⟨rfl, s1, s2, rfl, k1, k2, ha, hr, hc⟩⟩
    · obtain rfl : r = 0 := by
        rcases hr with ⟨h, _⟩ | ⟨_, h, _⟩
        · cases h
        · exact h
      exact .inl ⟨⟨fun v w hv hT => new_none sz v src _ w (by omega) (by omega) rfl k1 k2 hv ha hT 0 hr, fun v w hv => refNew_none sz v src _ w (by omega) (by omega) rfl k1 k2 hv ha 0 hr⟩, hr⟩
  · exact .inl ⟨ha, ⟨fun v w hv hT => new_rows sz v src _ w (by omega) (by omega) rfl k1 k2 hv ha, fun v w hv => refNew_rows sz v src _ w (by omega) (by omega) rfl k1 k2 hv ha⟩⟩
theorem asked10 (size : Int) (src : List (List Nat)) (hlt : ∀ r ∈ src, ∀ x ∈ r, x < 256) : (∃ err : Int, (err = 1 ∨ err = 5 ∨ err = 10) ∧ N10 size src err) ∨ ∃ k j sz c, B10 size src k j sz c := by
  by_cases hb : size < 1 ∨ 64 < size ∨ src.length < 1 ∨ 40 < src.length
  · refine .inl ⟨1, .inl rfl, ⟨fun v w hv hT => ?_, fun v w hv => ?_⟩⟩
    · obtain ⟨a, cap, rfl, _⟩ := hv.slice
      by_cases h1 : size < 1 ∨ 64 < size
      · exact new_size size _ w h1
      · exact new_count size a _ cap w (by omega) (by omega) (by omega)
    · have hm := hv.len
      obtain ⟨a, cap, rfl, _⟩ := hv.slice
      exact refNew_bad size a _ cap w hm hb
  · obtain ⟨sz, rfl⟩ := Int.eq_ofNat_of_zero_le (show 0 ≤ size by omega)
    rcases asked10_fit sz src hlt (by omega) (by omega) (by omega) (by omega) with ⟨_, h⟩ | ⟨_, ⟨h, _⟩ | ⟨j, c, h⟩⟩
    · exact .inl ⟨10, .inr (.inr rfl), h⟩
    · exact .inl ⟨5, .inr (.inl rfl), h⟩
    · exact .inr ⟨_, j, sz, c, h⟩
theorem ab_lt : ∀ r ∈ ([[97, 98]] : List (List Nat)), ∀ x ∈ r, x < 256 := by decide
theorem ab_all : AllB 2 [[97, 98]] := fun k hk => by
  obtain rfl : k = 0 := by simp at hk; omega
  rfl
theorem ab_block : ∃ c, B10 2 [[97, 98]] 1 0 2 c ∧ symOf 1 0 2 c 0 = [97, 98] := by
  obtain ⟨r, er, hr⟩ := seed_exists 1
  obtain ⟨rfl, rfl⟩ := hr.of_good SM.good_one
  obtain ⟨c, hc⟩ := BM.parts_exist 2 SM.good_one ab_lt
  have hsrc := hc.source 0 (by omega) rfl
  refine ⟨c, ⟨rfl, by omega, by omega, rfl, by omega, by omega, ab_all, hr, hc⟩, ?_⟩
  unfold symOf
  rw [if_pos (by decide), show (0 : Int).toNat = 0 from rfl, hsrc]
  rfl
end Go.Proofs.YtippckajlghimaaGreatDoor
/- object.New. -/
namespace Go.Proofs.YtippckajlghimaaGreatDoor
set_option maxRecDepth 20000
open Go.RowKit Go.Deep
set_option linter.unusedVariables false
/-- An object, if all of its blocks can be; else why not. -/
def NewOut (A : Look) (w : World) (full : Prop) (b s m : Int) (bs : List Bk) (err : Int) (e : Ending) (w' : World) : Prop :=
  (full → ∃ o, e = .returned (.tuple #[.pointer (some ⟨o, 0, none⟩), .int .i64 0]) ∧ w.Extends w' ∧ OV A w' o b s m bs) ∧ (¬ full → NoBlock w err e w')
/-- The first blocks can be, and the next one cannot. -/
structure Bks (s : Int) (sz : Nat) (L : List (List (List Nat))) (bs : List Bk) (err : Int) : Prop where
  le : bs.length ≤ L.length
  yes : ∀ i, i < bs.length → B10 s (L.getD i []) (bs.getD i Bk.zero).k (bs.getD i Bk.zero).j sz (bs.getD i Bk.zero).c
  no : bs.length < L.length → ∀ v w, Rws w v (L.getD bs.length []) → Tab w → Calls Tryz.prog 22 #[.int .i64 s, v] w (NoBlock w err)
  ne : err ≠ 0
/-- Rows of one size, and not too many: a block, or none for the seed. -/
theorem blk_fit (sz : Nat) (src : List (List Nat)) (hlt : ∀ r ∈ src, ∀ x ∈ r, x < 256) (s1 : 1 ≤ sz) (s2 : sz ≤ 64) (k1 : 1 ≤ src.length) (k2 : src.length ≤ 40) (ha : AllB sz src) :
    (SM.SeedIs src.length 0 5 ∧ ∀ v w, Rws w v src → Tab w → Calls Tryz.prog 22 #[.int .i64 (sz : Nat), v] w (NoBlock w 5)) ∨ ∃ j c, B10 sz src src.length j sz c := by
  obtain ⟨r, er, hr⟩ := seed_exists src.length
  rcases seed5 hr with rfl | rfl
  · have hg : SM.Good src.length r := by
      rcases hr with ⟨_, _, h, _⟩ | ⟨h, _⟩
      · exact h
      · cases h
    obtain ⟨c, hc⟩ := BM.parts_exist sz hg hlt
    exact .inr ⟨r, c, ⟨rfl, s1, s2, rfl, k1, k2, ha, hr, hc⟩⟩
  · obtain rfl : r = 0 := by
      rcases hr with ⟨h, _⟩ | ⟨_, h, _⟩
      · cases h
      · exact h
    exact .inl ⟨hr, fun v w hv hT => new_none sz v src _ w (by omega) (by omega) rfl k1 k2 hv ha hT 0 hr⟩
theorem B10.two {size : Int} {src c : List (List Nat)} {k j sz : Nat} (h : B10 size src k j sz c) : 2 ≤ c.length := by
  rw [h.len]; unfold PM.l PM.w; omega
theorem bs_snoc (bs : List Bk) (q : Nat) (h : q < bs.length) : bs.take q ++ [bs.getD q Bk.zero] = bs.take (q + 1) := by
  rw [List.take_succ_eq_append_getElem h]; simp [h]
theorem heap_alloc_lt' (w : World) (o : Obj) (g : Nat) (h : g < w.heap.size) : (w.alloc o).heap[g]? = w.heap[g]? := (ext_alloc w o).block g h
theorem ptrinfo : (Tryz.prog.info? 63).map (fun i => (i.zero, i.size, i.bytes)) = some (some (.pointer none), 1, 8) := by kernel_rfl
/-- No object: its bytes cannot be cut. -/
theorem newo_cut (b s m : Int) (v : Value) (xs : List Nat) (L : List (List (List Nat))) (er : Nat) (w : World) (he : er ≠ 0) (hv : U8s w v xs) (hc : ∀ v w, U8s w v xs → Calls Tryz.prog 21 #[PV b s m, v] w (CutOut w er L)) :
    Calls Tryz.prog 8 #[PV b s m, v] w (NoBlock w er) := by
  have HC := Lib.hid hc
  have HV := Lib.hid hv
  have hne : ((er : Int) != 0) = true := by simp; omega
  obtain ⟨va, vc, rfl, _⟩ := hv.slice
  clear hv hc he
  go_enter Tryz.func8, Tryz.ntmps8
  go_wp2_with fail
  generalize hw1 : World.alloc w _ = w1
  have hx1 : w.Extends w1 := by subst hw1; exact prm_ext_alloc _ _
  have HX1 := Lib.hid hx1
  clear hw1 hx1
  refine (HC.out _ w1 (HV.out.ext HX1.out)).mono ?_
  rintro e w2 ⟨u, rfl, hx, hu⟩
  have HX2 := Lib.hid (Gr.ext_trans HX1.out hx)
  obtain ⟨ua, uc, rfl, _⟩ := hu.slice
  clear hx hu
  go_wp2
  go_returns
  exact ⟨by rfl, HX2.out⟩
set_option maxHeartbeats 1000000 in
set_option maxRecDepth 100000 in
theorem newo_any (b s m : Int) (v : Value) (xs : List Nat) (L : List (List (List Nat))) (bs : List Bk) (sz : Nat) (err : Int) (w : World) (hT : Tab w) (hL : L.length ≤ 4000) (hv : U8s w v xs) (hB : Bks s sz L bs err) (hc : ∀ v w, U8s w v xs → Calls Tryz.prog 21 #[PV b s m, v] w (CutOut w 0 L)) :
    Calls Tryz.prog 8 #[PV b s m, v] w (NewOut (BLook sz) w (bs.length = L.length) b s m bs err) := by
  have HC := Lib.hid hc
  have HV := Lib.hid hv
  have HT := Lib.hid hT
  have HYES : Hid (∀ i, i < bs.length → ∀ v w, Rws w v (L.getD i []) → Tab w → Calls Tryz.prog 22 #[.int .i64 s, v] w fun e w' => ∃ p u, e = .returned (.tuple #[.pointer (some ⟨p, 0, none⟩), .int .i64 0]) ∧ w.Extends w' ∧ BLook sz w' p (bs.getD i Bk.zero) u ∧ Rws w' u (bs.getD i Bk.zero).c) := fun i hi v w hv hT => (hB.yes i hi).new v w hv hT
  have HNO : Hid (bs.length < L.length → ∀ v w, Rws w v (L.getD bs.length []) → Tab w → Calls Tryz.prog 22 #[.int .i64 s, v] w (NoBlock w err)) := hB.no
  have HTWO : Hid (∀ i, i < bs.length → 2 ≤ (bs.getD i Bk.zero).c.length) := fun i hi => (hB.yes i hi).two
  have hle := hB.le
  have hne : (err != 0) = true := by simpa using hB.ne
  have HSN := Lib.hid (bs_snoc bs)
  have HTK : Hid (bs.take 0 = []) := List.take_zero
  have HTL : Hid (∀ q, q ≤ bs.length → (bs.take q).length = q) := fun q h => by rw [List.length_take]; omega
  have HTA : Hid (bs.take bs.length = bs) := List.take_length
  have HLK := Lib.hid (bLooks sz)
  obtain ⟨i1, hi', hz0', hz1', hz2'⟩ := info_parts ptrinfo
  have HI' := Lib.hid hi'; clear hi'
  have HZ0' := Lib.hid hz0'; clear hz0'
  have HZ1' := Lib.hid hz1'; clear hz1'
  have HZ2' := Lib.hid hz2'; clear hz2'
  obtain ⟨va, vc, rfl, _⟩ := hv.slice
  clear hv hc hB hT
  obtain ⟨n, hn⟩ : ∃ n, n = L.length := ⟨_, rfl⟩
  obtain ⟨bn, hbn⟩ : ∃ bn, bn = bs.length := ⟨_, rfl⟩
  rw [← hn, ← hbn] at HNO ⊢
  rw [← hn] at hL
  rw [← hn, ← hbn] at hle
  rw [← hbn] at HYES HTWO HSN HTL HTA
  have HN := Lib.hid hn
  clear hn hbn
  generalize BLook sz = A at *
  go_enter Tryz.func8, Tryz.ntmps8
  go_wp2_with fail
  generalize hw1 : World.alloc w _ = w1
  have hx1 : w.Extends w1 := by subst hw1; exact prm_ext_alloc _ _
  have hp : PAt w1 w.heap.size b s m := by subst hw1; exact PAt.new w 23 b s m
  generalize w.heap.size = bx at hp ⊢
  have HX1 := Lib.hid hx1
  have HP1 := Lib.hid hp
  clear hw1 hx1 hp
  refine (HC.out _ w1 (HV.out.ext HX1.out)).mono ?_
  rintro e w2 ⟨u, rfl, hx, hu⟩
  have HX2 := Lib.hid (Gr.ext_trans HX1.out hx)
  have HP2 := Lib.hid (HP1.out.ext hx)
  obtain ⟨ua, uc, rfl, _⟩ := hu.slice
  rw [← HN.out] at hu ⊢
  have HU := Lib.hid hu.at.2
  have hb2 := HP2.out.lt
  obtain ⟨p0, p1, p2⟩ := HP2.out
  clear hx hu
  go_wp2_with fail
  generalize hw3 : World.alloc w2 _ = w3
  have hx3 : w2.Extends w3 := by subst hw3; exact prm_ext_alloc _ _
  have hob : OB A 43 63 w3 w2.heap.size b s m (.slice none 0 0) [] := by subst hw3; exact OB.new A 43 63 w2 b s m
  have hg2 : w.heap.size ≤ w2.heap.size := HX2.out.size
  have hxb : bx < w2.heap.size := hb2
  obtain ⟨g, hgg⟩ : ∃ g, g = w2.heap.size := ⟨_, rfl⟩
  rw [← hgg] at hob hg2 hxb ⊢
  have HGG := Lib.hid hgg
  have HX3 := Lib.hid hx3
  have HOB3 := Lib.hid hob
  have HP3 := Lib.hid (HP2.out.ext hx3)
  clear hw3 hx3 hob p0 p1 p2 hgg
  try go_wp2_with fail
  go_loopw [27] (fun i wr => ∃ (q : Nat) (v : Value), q ≤ n ∧ q ≤ bn ∧ i = .int .i64 q ∧ Hid (w2.Extends wr) ∧ Hid (OB A 43 63 wr g b s m v (bs.take q))) (fun i _ => (n - intOf i).toNat)
  case atStart => exact ⟨0, _, by omega, by omega, rfl, HX3, by rw [HTK.out]; exact HOB3⟩
  case round =>
    obtain ⟨q, vb, hq, hqb, rfl, HX, HOB⟩ := hrel
    have HPr := Lib.hid (HP2.out.ext HX.out)
    by_cases h7 : q < n
    · obtain ⟨b1, o1, rfl, hb1, hc1⟩ := HU.out (by omega)
      obtain ⟨ra, rc, hc3, hr0⟩ := hc1 q h7
      have HXr := Lib.hid (Gr.ext_trans HX2.out HX.out)
      have HRr := Lib.hid (hr0.ext HX.out)
      have hbr := HPr.out.lt
      have hc2 := HX.out.cell_of hc3
      obtain ⟨p0, p1, p2⟩ := HPr.out
      have HYQ : Hid (q < bn → _) := HYES.out q
      have HTQ : Hid (q < bn → _) := HTWO.out q
      have HSQ : Hid (q < bn → _) := HSN.out q
      have HNQ : Hid (q = bn → ∀ v w, Rws w v (L.getD q []) → Tab w → Calls Tryz.prog 22 #[.int .i64 s, v] w (NoBlock w err)) := fun e => by
        have := HNO.out (by omega)
        rw [← e] at this
        exact this
      clear hc1 hc3 hr0
      generalize L.getD q [] = row at *
      go_wp2_with fail
      by_cases h8 : q < bn
      · have HY1 := Lib.hid (HYQ.out h8)
        have HT1 := Lib.hid (HTQ.out h8)
        have HS1 := Lib.hid (HSQ.out h8)
        clear HYQ HTQ HSQ HNQ
        generalize bs.getD q Bk.zero = x at *
        refine (HY1.out _ wr HRr.out (HT.out.ext HXr.out)).mono ?_
        rintro e w6 ⟨p, u, rfl, hx, hl, hru⟩
        have HX6 := Lib.hid (Gr.ext_trans HX.out hx)
        have HOB6 := Lib.hid (HOB.out.ext HLK.out hx)
        have HL6 := Lib.hid hl
        have HR6 := Lib.hid hru
        clear hx hl hru p0 p1 p2 HX HOB HPr hc2
        obtain ⟨vba, vbc, rfl⟩ : ∃ a c, vb = .slice a q c := by
          have := HOB6.out.slice
          rwa [HTL.out q (by omega)] at this
        have HAP := Lib.hid (HOB6.out.apart HLK.out HL6.out HR6.out HT1.out)
        obtain ⟨hrow, hcl, vs, hown, hpt⟩ := HOB6.out
        have HROW := Lib.hid hrow
        have HCL := Lib.hid hcl
        have HOWN := Lib.hid hown
        have HPT := Lib.hid hpt
        have hcell : w6.cell? ⟨g, 3, none⟩ = some (.slice vba q vbc) := hrow.cell (i := 3) (by omega)
        have hgl : g < w6.heap.size := hrow.lt
        have HTQL := Lib.hid (HTL.out q hqb)
        have howq := hown
        rw [HTQL.out] at howq
        have HOWQ := Lib.hid howq
        clear hrow hcl hown hpt howq
        go_wp2_with (at_builtin; refine wpList_append_own_src3 _ rfl _ _ 41 41 rfl (g + 1) 63 i1 (.pointer none) 1 8 Tryz.underlying41 HI'.out HZ0'.out HZ1'.out HZ2'.out rfl _ _ _ rfl (HOWQ.out.alloc _) _ 1 [.pointer (some ⟨p, 0, none⟩)] rfl (src_one Tryz.underlying41 _ _ rfl rfl) (by unfold maxLen; omega) (by omega) (by simp; omega) IsPtr (HCL.out.kept fun g' hg' => heap_alloc_lt' _ _ _ (HOWN.out.lt g' hg').2) (fun y hy => by simp at hy; exact ⟨_, hy⟩) (fun y hy => ⟨none, by simpa [Value.cells] using hy⟩) ?_)
        intro v9 w9 ho9 hg9 _ hcl9
        have HW9 : Hid (w2.Extends (w9.setCell ⟨g, 3, none⟩ v9) ∧ OB A 43 63 (w9.setCell ⟨g, 3, none⟩ v9) g b s m v9 (bs.take (q + 1))) := by
          refine ⟨?_, ?_⟩
          · have hx9 : w2.Extends w9 := ext_own (Gr.ext_trans HX6.out (ext_alloc _ _)) hg9 fun x hx => by have := (HOWN.out.lt x hx).1; have := HGG.out; omega
            exact ext_own hx9 (grown_setCell (grown_refl w9 (some g)) 3 v9) fun x hx => by cases hx; exact Nat.le_of_eq HGG.out.symm
          · rw [← HS1.out]
            refine OB.snoc HLK.out (HROW.out.alloc _) (HCL.out.kept fun g' hg' => heap_alloc_lt' _ _ _ (HOWN.out.lt g' hg').2) (HOWN.out.alloc _) (fun i hi => ?_) (HLK.out.ext HL6.out (ext_alloc _ _)) (HR6.out.ext (ext_alloc _ _)) HT1.out hg9 (by rw [HTQL.out]; exact ho9) hcl9
            obtain ⟨y, e, hpy, hy2⟩ := HPT.out i hi
            exact ⟨y, e, hpy.ext HLK.out (ext_alloc _ _), hy2⟩
        have hrow9 := (HROW.out.alloc (.cells #[.pointer (some ⟨p, 0, none⟩)] 63)).of_block (hg9.block g (by simp; omega) fun e => by have := (HOWN.out.lt g e.symm).1; omega)
        have hcell9 : w9.cell? ⟨g, 3, none⟩ = some (.slice vba q vbc) := hrow9.cell (i := 3) (by omega)
        have hfz9 := hrow9.frozen 3
        obtain ⟨xa, xc, rfl⟩ := owns_slice ho9
        clear ho9 hg9 hcl9 hrow9 hcell HOB6 HROW HCL HOWN HOWQ HPT HAP
        go_wp2
        go_roundw
        case rel => exact ⟨q + 1, _, by omega, by omega, by go_num, Lib.hid HW9.out.1, Lib.hid HW9.out.2⟩
        case measure => simp [intOf]; omega
      · have hqe : q = bn := by omega
        have HN1 := Lib.hid (HNQ.out hqe)
        clear HYQ HTQ HSQ HNQ
        refine (HN1.out _ wr HRr.out (HT.out.ext HXr.out)).mono ?_
        rintro e w6 ⟨rfl, hx⟩
        have HP : Hid (NewOut A w (bn = n) b s m bs err (.returned (.tuple #[.pointer none, .int .i64 err])) w6) := ⟨fun h => by omega, fun _ => ⟨rfl, Gr.ext_trans HXr.out hx⟩⟩
        clear hx p0 p1 p2 hc2
        go_wp2
        go_returns
        exact HP.out
    · obtain rfl : q = n := by omega
      have HXr := Lib.hid (Gr.ext_trans HX2.out HX.out)
      have hbq : bn = q := by omega
      have HP : Hid (NewOut A w (bn = q) b s m bs err (.returned (.tuple #[.pointer (some ⟨g, 0, none⟩), .int .i64 0])) wr) := ⟨fun _ => ⟨g, rfl, HXr.out, by
        have h := HOB.out.ov
        rw [← hbq, HTA.out] at h
        exact h⟩, fun h => absurd hbq h⟩
      go_wp2
      go_returns
      exact HP.out
end Go.Proofs.YtippckajlghimaaGreatDoor
/- The reference's NewObject. -/
namespace Go.Proofs.YtippckajlghimaaGreatDoor
set_option maxRecDepth 20000
open Go.RowKit Go.Deep
set_option linter.unusedVariables false
theorem rptrinfo : (Tryz.prog.info? 72).map (fun i => (i.zero, i.size, i.bytes)) = some (some (.pointer none), 1, 8) := by kernel_rfl
/-- No object: its bytes cannot be cut. -/
theorem rnewo_cut (b s m : Int) (v : Value) (xs : List Nat) (L : List (List (List Nat))) (er : Nat) (w : World) (he : er ≠ 0) (hv : U8s w v xs) (hc : ∀ v w, U8s w v xs → Calls Tryz.prog 23 #[PV b s m, v] w (CutOut w er L)) :
    Calls Tryz.prog 9 #[PV b s m, v] w (NoBlock w er) := by
  have HC := Lib.hid hc
  have HV := Lib.hid hv
  have hne : ((er : Int) != 0) = true := by simp; omega
  obtain ⟨va, vc, rfl, _⟩ := hv.slice
  clear hv hc he
  go_enter Tryz.func9, Tryz.ntmps9
  go_wp2_with fail
  generalize hw1 : World.alloc w _ = w1
  have hx1 : w.Extends w1 := by subst hw1; exact prm_ext_alloc _ _
  have HX1 := Lib.hid hx1
  clear hw1 hx1
  refine (HC.out _ w1 (HV.out.ext HX1.out)).mono ?_
  rintro e w2 ⟨u, rfl, hx, hu⟩
  have HX2 := Lib.hid (Gr.ext_trans HX1.out hx)
  obtain ⟨ua, uc, rfl, _⟩ := hu.slice
  clear hx hu
  go_wp2
  go_returns
  exact ⟨by rfl, HX2.out⟩
set_option maxHeartbeats 1000000 in
set_option maxRecDepth 100000 in
theorem rnewo_any (b s m : Int) (v : Value) (xs : List Nat) (L : List (List (List Nat))) (bs : List Bk) (sz : Nat) (err : Int) (w : World) (hL : L.length ≤ 4000) (hv : U8s w v xs) (hB : Bks s sz L bs err) (hBR : bs.length < L.length → ∀ v w, Rws w v (L.getD bs.length []) → Calls Tryz.prog 24 #[.int .i64 s, v] w (NoBlock w err)) (hc : ∀ v w, U8s w v xs → Calls Tryz.prog 23 #[PV b s m, v] w (CutOut w 0 L)) :
    Calls Tryz.prog 9 #[PV b s m, v] w (NewOut (RLook sz) w (bs.length = L.length) b s m bs err) := by
  have HC := Lib.hid hc
  have HV := Lib.hid hv
  have HYES : Hid (∀ i, i < bs.length → ∀ v w, Rws w v (L.getD i []) → Calls Tryz.prog 24 #[.int .i64 s, v] w fun e w' => ∃ p u, e = .returned (.tuple #[.pointer (some ⟨p, 0, none⟩), .int .i64 0]) ∧ w.Extends w' ∧ RLook sz w' p (bs.getD i Bk.zero) u ∧ Rws w' u (bs.getD i Bk.zero).c) := fun i hi v w hv => (hB.yes i hi).refNew v w hv
  have HNO : Hid (bs.length < L.length → ∀ v w, Rws w v (L.getD bs.length []) → Calls Tryz.prog 24 #[.int .i64 s, v] w (NoBlock w err)) := hBR
  have HTWO : Hid (∀ i, i < bs.length → 2 ≤ (bs.getD i Bk.zero).c.length) := fun i hi => (hB.yes i hi).two
  have hle := hB.le
  have hne : (err != 0) = true := by simpa using hB.ne
  have HSN := Lib.hid (bs_snoc bs)
  have HTK : Hid (bs.take 0 = []) := List.take_zero
  have HTL : Hid (∀ q, q ≤ bs.length → (bs.take q).length = q) := fun q h => by rw [List.length_take]; omega
  have HTA : Hid (bs.take bs.length = bs) := List.take_length
  have HLK := Lib.hid (rLooks sz)
  obtain ⟨i1, hi', hz0', hz1', hz2'⟩ := info_parts rptrinfo
  have HI' := Lib.hid hi'; clear hi'
  have HZ0' := Lib.hid hz0'; clear hz0'
  have HZ1' := Lib.hid hz1'; clear hz1'
  have HZ2' := Lib.hid hz2'; clear hz2'
  obtain ⟨va, vc, rfl, _⟩ := hv.slice
  clear hv hc hB hBR
  obtain ⟨n, hn⟩ : ∃ n, n = L.length := ⟨_, rfl⟩
  obtain ⟨bn, hbn⟩ : ∃ bn, bn = bs.length := ⟨_, rfl⟩
  rw [← hn, ← hbn] at HNO ⊢
  rw [← hn] at hL
  rw [← hn, ← hbn] at hle
  rw [← hbn] at HYES HTWO HSN HTL HTA
  have HN := Lib.hid hn
  clear hn hbn
  generalize RLook sz = A at *
  go_enter Tryz.func9, Tryz.ntmps9
  go_wp2_with fail
  generalize hw1 : World.alloc w _ = w1
  have hx1 : w.Extends w1 := by subst hw1; exact prm_ext_alloc _ _
  have hp : PAt w1 w.heap.size b s m := by subst hw1; exact PAt.new w 23 b s m
  generalize w.heap.size = bx at hp ⊢
  have HX1 := Lib.hid hx1
  have HP1 := Lib.hid hp
  clear hw1 hx1 hp
  refine (HC.out _ w1 (HV.out.ext HX1.out)).mono ?_
  rintro e w2 ⟨u, rfl, hx, hu⟩
  have HX2 := Lib.hid (Gr.ext_trans HX1.out hx)
  have HP2 := Lib.hid (HP1.out.ext hx)
  obtain ⟨ua, uc, rfl, _⟩ := hu.slice
  rw [← HN.out] at hu ⊢
  have HU := Lib.hid hu.at.2
  have hb2 := HP2.out.lt
  obtain ⟨p0, p1, p2⟩ := HP2.out
  clear hx hu
  go_wp2_with fail
  generalize hw3 : World.alloc w2 _ = w3
  have hx3 : w2.Extends w3 := by subst hw3; exact prm_ext_alloc _ _
  have hob : OB A 71 72 w3 w2.heap.size b s m (.slice none 0 0) [] := by subst hw3; exact OB.new A 71 72 w2 b s m
  have hg2 : w.heap.size ≤ w2.heap.size := HX2.out.size
  have hxb : bx < w2.heap.size := hb2
  obtain ⟨g, hgg⟩ : ∃ g, g = w2.heap.size := ⟨_, rfl⟩
  rw [← hgg] at hob hg2 hxb ⊢
  have HGG := Lib.hid hgg
  have HX3 := Lib.hid hx3
  have HOB3 := Lib.hid hob
  have HP3 := Lib.hid (HP2.out.ext hx3)
  clear hw3 hx3 hob p0 p1 p2 hgg
  try go_wp2_with fail
  go_loopw [9] (fun i wr => ∃ (q : Nat) (v : Value), q ≤ n ∧ q ≤ bn ∧ i = .int .i64 q ∧ Hid (w2.Extends wr) ∧ Hid (OB A 71 72 wr g b s m v (bs.take q))) (fun i _ => (n - intOf i).toNat)
  case atStart => exact ⟨0, _, by omega, by omega, rfl, HX3, by rw [HTK.out]; exact HOB3⟩
  case round =>
    obtain ⟨q, vb, hq, hqb, rfl, HX, HOB⟩ := hrel
    have HPr := Lib.hid (HP2.out.ext HX.out)
    by_cases h7 : q < n
    · obtain ⟨b1, o1, rfl, hb1, hc1⟩ := HU.out (by omega)
      obtain ⟨ra, rc, hc3, hr0⟩ := hc1 q h7
      have HXr := Lib.hid (Gr.ext_trans HX2.out HX.out)
      have HRr := Lib.hid (hr0.ext HX.out)
      have hbr := HPr.out.lt
      have HCE : Hid (∀ w', wr.drew.Extends w' → w'.cell? ⟨b1, o1 + q, none⟩ = some (.slice ra (L.getD q []).length rc) ∧ w'.cell? ⟨bx, 1, none⟩ = some (.int .i64 s)) := fun w' hw' => ⟨(Gr.ext_trans HX.out (Gr.of_drew hw')).cell_of hc3, (HPr.out.ext (Gr.of_drew hw')).2.1⟩
      have HYQ : Hid (q < bn → _) := HYES.out q
      have HTQ : Hid (q < bn → _) := HTWO.out q
      have HSQ : Hid (q < bn → _) := HSN.out q
      have HNQ : Hid (q = bn → ∀ v w, Rws w v (L.getD q []) → Calls Tryz.prog 24 #[.int .i64 s, v] w (NoBlock w err)) := fun e => by
        have := HNO.out (by omega)
        rw [← e] at this
        exact this
      clear hc1 hc3 hr0
      generalize L.getD q [] = row at *
      go_wp2_with fail
      have HXd := Lib.hid (Gr.ext_drew HXr.out)
      have HXe : Hid (w2.Extends wr.drew) := Gr.ext_drew HX.out
      have HRd := Lib.hid (HRr.out.ext (Gr.ext_drew (Gr.ext_refl wr)))
      have HOBd : Hid (OB A 71 72 wr.drew g b s m vb (bs.take q)) := HOB.out.ext HLK.out (Gr.ext_drew (Gr.ext_refl wr))
      clear HX HXr HOB HRr HPr
      refine Gr.region 11 [(false,0),(false,1),(false,2),(false,3),(false,4),(false,5),(true,6),(false,7),(false,8),(false,9),(false,10)] (by kernel_rfl) (by kernel_rfl) (fun d _ _ _ _ h => by cases d <;> exact h) ?_
      simp only [Gr.pick, List.getElem?_cons_zero, List.getElem?_cons_succ, List.drop_succ_cons, List.drop_zero]
      generalize wr.drew = w5 at *
      iterate 6
        refine Gr.walk_t ?_ (Or.inl ⟨by rfl, ?_⟩) ?_
        rotate_left
        · intro w' hw'
          obtain ⟨q1, q2⟩ := HCE.out w' hw'
          clear hw'
          go_simp
          try with_reducible rfl
        simp only [Act.put, List.setIfInBounds_toArray, List.set_cons_zero, List.set_cons_succ]
      by_cases h8 : q < bn
      · have HY1 := Lib.hid (HYQ.out h8)
        have HT1 := Lib.hid (HTQ.out h8)
        have HS1 := Lib.hid (HSQ.out h8)
        clear HYQ HTQ HSQ HNQ
        generalize bs.getD q Bk.zero = x at *
        refine Gr.walk_c (fun K hK => ?_)
        go_simp
        refine (HY1.out _ w5 HRd.out).mono ?_
        rintro e w6 ⟨p, u, rfl, hx, hl, hru⟩
        have HX6 := Lib.hid (Gr.ext_trans HXe.out hx)
        have HOB6 := Lib.hid (HOBd.out.ext HLK.out hx)
        have HL6 := Lib.hid hl
        have HR6 := Lib.hid hru
        try go_simp
        refine hK.out _ _ (hx) ?_
        clear hK K
        clear hx hl hru
        iterate 4
          refine Gr.walk_t ?_ (Or.inl ⟨by rfl, ?_⟩) ?_
          rotate_left
          · intro w' hw'
            clear hw'
            go_simp
            try with_reducible rfl
          simp only [Act.put, List.setIfInBounds_toArray, List.set_cons_zero, List.set_cons_succ]
        refine Gr.walk_nil ?_
        obtain ⟨vba, vbc, rfl⟩ : ∃ a c, vb = .slice a q c := by
          have := HOB6.out.slice
          rwa [HTL.out q (by omega)] at this
        have HAP := Lib.hid (HOB6.out.apart HLK.out HL6.out HR6.out HT1.out)
        obtain ⟨hrow, hcl, vs, hown, hpt⟩ := HOB6.out
        have HROW := Lib.hid hrow
        have HCL := Lib.hid hcl
        have HOWN := Lib.hid hown
        have HPT := Lib.hid hpt
        have hcell : w6.cell? ⟨g, 3, none⟩ = some (.slice vba q vbc) := hrow.cell (i := 3) (by omega)
        have hgl : g < w6.heap.size := hrow.lt
        have HTQL := Lib.hid (HTL.out q hqb)
        have howq := hown
        rw [HTQL.out] at howq
        have HOWQ := Lib.hid howq
        clear hrow hcl hown hpt howq
        go_wp2_with (at_builtin; refine wpList_append_own_src3 _ rfl _ _ 69 69 rfl (g + 1) 72 i1 (.pointer none) 1 8 Tryz.underlying69 HI'.out HZ0'.out HZ1'.out HZ2'.out rfl _ _ _ rfl (HOWQ.out.alloc _) _ 1 [.pointer (some ⟨p, 0, none⟩)] rfl (src_one Tryz.underlying69 _ _ rfl rfl) (by unfold maxLen; omega) (by omega) (by simp; omega) IsPtr (HCL.out.kept fun g' hg' => heap_alloc_lt' _ _ _ (HOWN.out.lt g' hg').2) (fun y hy => by simp at hy; exact ⟨_, hy⟩) (fun y hy => ⟨none, by simpa [Value.cells] using hy⟩) ?_)
        intro v9 w9 ho9 hg9 _ hcl9
        have HW9 : Hid (w2.Extends (w9.setCell ⟨g, 3, none⟩ v9) ∧ OB A 71 72 (w9.setCell ⟨g, 3, none⟩ v9) g b s m v9 (bs.take (q + 1))) := by
          refine ⟨?_, ?_⟩
          · have hx9 : w2.Extends w9 := ext_own (Gr.ext_trans HX6.out (ext_alloc _ _)) hg9 fun x hx => by have := (HOWN.out.lt x hx).1; have := HGG.out; omega
            exact ext_own hx9 (grown_setCell (grown_refl w9 (some g)) 3 v9) fun x hx => by cases hx; exact Nat.le_of_eq HGG.out.symm
          · rw [← HS1.out]
            refine OB.snoc HLK.out (HROW.out.alloc _) (HCL.out.kept fun g' hg' => heap_alloc_lt' _ _ _ (HOWN.out.lt g' hg').2) (HOWN.out.alloc _) (fun i hi => ?_) (HLK.out.ext HL6.out (ext_alloc _ _)) (HR6.out.ext (ext_alloc _ _)) HT1.out hg9 (by rw [HTQL.out]; exact ho9) hcl9
            obtain ⟨y, e, hpy, hy2⟩ := HPT.out i hi
            exact ⟨y, e, hpy.ext HLK.out (ext_alloc _ _), hy2⟩
        have hrow9 := (HROW.out.alloc (.cells #[.pointer (some ⟨p, 0, none⟩)] 72)).of_block (hg9.block g (by simp; omega) fun e => by have := (HOWN.out.lt g e.symm).1; omega)
        have hcell9 : w9.cell? ⟨g, 3, none⟩ = some (.slice vba q vbc) := hrow9.cell (i := 3) (by omega)
        have hfz9 := hrow9.frozen 3
        obtain ⟨xa, xc, rfl⟩ := owns_slice ho9
        clear ho9 hg9 hcl9 hrow9 hcell HOB6 HROW HCL HOWN HOWQ HPT HAP
        go_wp2
        go_roundw
        case rel => exact ⟨q + 1, _, by omega, by omega, by go_num, Lib.hid HW9.out.1, Lib.hid HW9.out.2⟩
        case measure => simp [intOf]; omega
      · have hqe : q = bn := by omega
        have HN1 := Lib.hid (HNQ.out hqe)
        clear HYQ HTQ HSQ HNQ
        refine Gr.walk_c (fun K hK => ?_)
        go_simp
        refine (HN1.out _ w5 HRd.out).mono ?_
        rintro e w6 ⟨rfl, hx⟩
        have HP : Hid (NewOut A w (bn = n) b s m bs err (.returned (.tuple #[.pointer none, .int .i64 err])) w6) := ⟨fun h => by omega, fun _ => ⟨rfl, Gr.ext_trans HXd.out hx⟩⟩
        try go_simp
        refine hK.out _ _ (hx) ?_
        clear hK K
        clear hx
        iterate 4
          refine Gr.walk_t ?_ (Or.inl ⟨by rfl, ?_⟩) ?_
          rotate_left
          · intro w' hw'
            clear hw'
            go_simp
            try with_reducible rfl
          simp only [Act.put, List.setIfInBounds_toArray, List.set_cons_zero, List.set_cons_succ]
        refine Gr.walk_nil ?_
        go_wp2
        go_returns
        exact HP.out
    · obtain rfl : q = n := by omega
      have HXr := Lib.hid (Gr.ext_trans HX2.out HX.out)
      have hbq : bn = q := by omega
      have HP : Hid (NewOut A w (bn = q) b s m bs err (.returned (.tuple #[.pointer (some ⟨g, 0, none⟩), .int .i64 0])) wr) := ⟨fun _ => ⟨g, rfl, HXr.out, by
        have h := HOB.out.ov
        rw [← hbq, HTA.out] at h
        exact h⟩, fun h => absurd hbq h⟩
      go_wp2
      go_returns
      exact HP.out
end Go.Proofs.YtippckajlghimaaGreatDoor
/- Slices that a call has appended together, in no common block. -/
namespace Go.Proofs.YtippckajlghimaaGreatDoor
set_option maxRecDepth 20000
open Go.RowKit Go.Deep
set_option linter.unusedVariables false
/-- Two slices in no common block. -/
def Ap (u v : Value) : Prop := ∀ g, u.ownBlock = some g → v.ownBlock ≠ some g
theorem Ap.symm {u v : Value} (h : Ap u v) : Ap v u := fun g h1 h2 => h g h2 h1
theorem Ap.or {u v : Value} (h : Ap u v) : u.ownBlock = none ∨ u.ownBlock ≠ v.ownBlock := by
  cases hu : u.ownBlock with
  | none => exact .inl rfl
  | some g => exact .inr fun e => h g hu e.symm
theorem Ap.next {w : World} {B n s S : Nat} {T : TypeId} {u v v' : Value} {xs : List Value} (h : Ap u v) (hu : w.ownsRow B T s u n xs) (hS : w.heap.size ≤ S) (hn : v'.ownBlock = v.ownBlock ∨ ∃ g, v'.ownBlock = some g ∧ S ≤ g) : Ap u v' := fun g h1 h2 => by
  rcases hn with e | ⟨g', e, hg⟩
  · exact h g h1 (e ▸ h2)
  · rw [e] at h2
    cases h2
    have := (hu.lt _ h1).2
    omega
end Go.Proofs.YtippckajlghimaaGreatDoor
/- append(s, x...) onto a slice that the call itself made: besides, the array is the old one or a new one. -/
namespace Go.Proofs.YtippckajlghimaaGreatDoor
set_option maxRecDepth 20000
open Go.RowKit Go.Deep
set_option linter.unusedVariables false
section
variable {P : Program} (w : World)
theorem run_append_own_src2 (base : Nat) (t tx ty e : TypeId) (i : TypeInfo) (z : Value) (size bytes : Nat) (ht : P.underlying t = some (.slice e)) (hi : P.info? e = some i) (hz : i.zero = some z)
    (hsize : i.size = size) (hby : i.bytes = bytes) (hzs : z.cells.size = size)
    (v : Value) (n : Nat) (xs : List Value) (hown : w.ownsRow base e size v n xs) (x : Value) (m : Nat) (news : List Value) (hs : Src P size tx x m news w)
    (h63 : n + m ≤ maxLen) (hbytes : (n + m) * bytes ≤ 140737488355328) (hbase : base ≤ w.heap.size) :
    ∃ v' w', (Builtin.append_ #[t, tx] ty #[v, x]).run P w = .ok v' w' ∧ w'.ownsRow base e size v' (n + m) (xs ++ news) ∧ w.grownBy w' v.ownBlock ∧
      (v'.ownBlock = v.ownBlock ∨ ∃ g, v'.ownBlock = some g ∧ w.heap.size ≤ g) := by
  subst hsize
  subst hby
  have hsmall : n + m ≤ 9223372036854775807 := by simp only [maxLen] at h63; omega
  have hl := hs.newsLen
  have hlen : (xs ++ news).length = (n + m) * i.size := by rw [List.length_append, hown.1, hl, Nat.add_mul]
  have grown : ∀ (old : Nat), old < n + m → ∀ (row : Option Nat),
      (w.drew.alloc (.cells ((xs ++ news).toArray ++ Builtin.zeroCells z.cells (grownCap w (n + m) old e - (n + m))) e)).ownsRow base e i.size
        (.slice (some ⟨w.heap.size, 0, none⟩) (n + m) (grownCap w (n + m) old e)) (n + m) (xs ++ news) ∧
      w.grownBy (w.drew.alloc (.cells ((xs ++ news).toArray ++ Builtin.zeroCells z.cells (grownCap w (n + m) old e - (n + m))) e)) row := by
    intro old ho row
    have hge := grownCap_ge w (n + m) old e
    have hcm : grownCap w (n + m) old e ≤ maxLen := grownCap_le_maxLen w (n + m) old e h63
    refine ⟨⟨hlen, .inr ⟨w.heap.size, _, _, rfl, hbase, heap_alloc_new w.drew _, hge, hcm, ?_, ?_⟩⟩, ⟨rfl, rfl, rfl, by simp, fun k hk _ => Below.heap_alloc w.drew _ k hk⟩⟩
    · simp only [Array.size_append, List.size_toArray, size_zeroCells, hzs, hlen, ← Nat.add_mul]
      congr 1
      omega
    · simp only [Array.toList_append]
      rw [← hlen]
      exact List.take_left
  rcases hown.2 with ⟨rfl, rfl⟩ | ⟨g, cap, cur, rfl, hbg, hg, hnc, hcm, hcs, htake⟩
  · have hx : xs = [] := List.eq_nil_of_length_eq_zero (by simpa using hown.1)
    subst hx
    by_cases hm : m = 0
    · subst hm
      have hn : news = [] := List.eq_nil_of_length_eq_zero (by simpa using hl)
      subst hn
      refine ⟨.slice none 0 0, w, ?_, World.ownsRow_nil w base e i.size, ⟨rfl, rfl, rfl, Nat.le_refl _, fun _ _ _ => rfl⟩, .inl rfl⟩
      rcases hs.kind with ⟨e', hk⟩ | hk <;> simp [Builtin.append_, run_underlying ht, run_underlying hk, sizeOf, typeInfo, hi, hs.len, hs.cells]
    · have hr := run_append_grow_src (P := P) w t tx ty e i z ht hi hz none 0 0 [] (by simp [Builtin.firstCells]) x m news hs (by omega) (by omega) (growslice_fits (by omega) (by have hb := hbytes; simp only [Nat.zero_add] at hb ⊢; exact hb))
      have hgr := grown 0 (by omega) (Value.ownBlock (.slice none 0 0))
      simp only [Nat.zero_add, List.nil_append] at hgr hr ⊢
      exact ⟨_, _, hr, hgr.1, hgr.2, .inr ⟨_, rfl, Nat.le_refl _⟩⟩
  · by_cases hroom : n + m ≤ cap
    · have hfit : n * i.size + news.length ≤ cur.size := by rw [hl, hcs, ← Nat.add_mul]; exact Nat.mul_le_mul_right _ hroom
      have hst := run_storeCells_at P g (n * i.size) e news 0 cur w hg (by simpa using hfit) hs.one
      simp only [Nat.add_zero] at hst
      have hr : (Builtin.append_ #[t, tx] ty #[.slice (some ⟨g, 0, none⟩) n cap, x]).run P w =
          .ok (.slice (some ⟨g, 0, none⟩) (n + m) cap) (w.setRow g (cur.toList.take (n * i.size) ++ news ++ cur.toList.drop (n * i.size + news.length)).toArray) := by
        rcases hs.kind with ⟨e', hk⟩ | hk <;> simp [Builtin.append_, run_underlying ht, run_underlying hk, sizeOf, typeInfo, hi, hs.len, hroom, hs.cells, Addr.add_lit, hst]
      refine ⟨_, _, hr, ⟨hlen, .inr ⟨g, cap, _, rfl, hbg, setRow_heap w g cur _ e _ hg, hroom, hcm, ?_, ?_⟩⟩, ⟨rfl, rfl, rfl, by simp, fun k _ hk => setRow_other w g k _ (fun e => hk (by simp [Value.ownBlock, e]))⟩, .inl rfl⟩
      · simp only [List.size_toArray, List.length_append, List.length_take, List.length_drop, Array.length_toList]
        omega
      · rw [htake, ← hlen]
        exact List.take_left
    · have holds : ∀ j u, xs[j]? = some u → w.cell? ((⟨g, 0, none⟩ : Addr).add j) = some u := hown.cells (g := g) rfl
      have hold := run_firstCells_some (P := P) w.drew i.size n ⟨g, 0, none⟩ n cap xs hown.1 (by simpa using holds)
      have hr := run_append_grow_src (P := P) w t tx ty e i z ht hi hz (some ⟨g, 0, none⟩) n cap xs hold x m news hs (by omega) (by omega) (growslice_fits (by omega) hbytes)
      have hgr := grown cap (by omega) (Value.ownBlock (.slice (some ⟨g, 0, none⟩) n cap))
      exact ⟨_, _, hr, hgr.1, hgr.2, .inr ⟨_, rfl, Nat.le_refl _⟩⟩
theorem wp_append_own_src2 {o : Oper} {a : Act} {K : Act → World → Prop} {Q : Exit → Act → World → Prop} (s x : Operand) (t tx : TypeId)
    (ho : o.op = .call { callee := .builtin .append, args := #[s, x], argTypes := #[t, tx] })
    (base : Nat) (e : TypeId) (i : TypeInfo) (z : Value) (size bytes : Nat) (ht : P.underlying t = some (.slice e)) (hi : P.info? e = some i) (hz : i.zero = some z)
    (hsize : i.size = size) (hby : i.bytes = bytes) (hzs : z.cells.size = size)
    (v : Value) (n : Nat) (xs : List Value) (hs : a.eval s = v) (hown : w.ownsRow base e size v n xs) (y : Value) (m : Nat) (news : List Value) (hx : a.eval x = y) (hsrc : Src P size tx y m news w)
    (h63 : n + m ≤ maxLen) (hbytes : (n + m) * bytes ≤ 140737488355328) (hbase : base ≤ w.heap.size)
    (h : ∀ v' w', w'.ownsRow base e size v' (n + m) (xs ++ news) → w.grownBy w' v.ownBlock → (v'.ownBlock = v.ownBlock ∨ ∃ g, v'.ownBlock = some g ∧ w.heap.size ≤ g) → K (a.put o.dst v') w') : o.wp P a w K Q := by
  obtain ⟨v', w', hr, h2, h3, h4⟩ := run_append_own_src2 (P := P) w base t tx o.type e i z size bytes ht hi hz hsize hby hzs v n xs hown y m news hsrc h63 hbytes hbase
  unfold Oper.wp execOp
  simp only [ho, resolve, invoke, builtin, Sem.run_bind, Sem.run_pure, Result.andThen_ok, List.map_toArray, List.map_cons, List.map_nil, hs, hx, hr]
  exact h v' w' h2 h3 h4
theorem wpList_append_own_src2 {ops : Array Oper} {rest : List Oper} {o : Oper} {a : Act} {Q : Exit → Act → World → Prop} (hgd : o.guard = none) (s x : Operand) (t tx : TypeId)
    (ho : o.op = .call { callee := .builtin .append, args := #[s, x], argTypes := #[t, tx] })
    (base : Nat) (e : TypeId) (i : TypeInfo) (z : Value) (size bytes : Nat) (ht : P.underlying t = some (.slice e)) (hi : P.info? e = some i) (hz : i.zero = some z)
    (hsize : i.size = size) (hby : i.bytes = bytes) (hzs : z.cells.size = size)
    (v : Value) (n : Nat) (xs : List Value) (hs : a.eval s = v) (hown : w.ownsRow base e size v n xs) (y : Value) (m : Nat) (news : List Value) (hx : a.eval x = y) (hsrc : Src P size tx y m news w)
    (h63 : n + m ≤ maxLen) (hbytes : (n + m) * bytes ≤ 140737488355328) (hbase : base ≤ w.heap.size)
    (h : ∀ v' w', w'.ownsRow base e size v' (n + m) (xs ++ news) → w.grownBy w' v.ownBlock → (v'.ownBlock = v.ownBlock ∨ ∃ g, v'.ownBlock = some g ∧ w.heap.size ≤ g) → wpList P ops Q rest (a.put o.dst v') w') : wpList P ops Q (o :: rest) a w :=
  wpList_plain hgd fun _ hK => wp_append_own_src2 w s x t tx ho base e i z size bytes ht hi hz hsize hby hzs v n xs hs hown y m news hx hsrc h63 hbytes hbase fun v' w' h2 h3 h4 => hK _ _ (h v' w' h2 h3 h4)
end
/-- Two slices of a call's own that share no array. -/
def Apart (u v : Value) : Prop := u.ownBlock = none ∨ u.ownBlock ≠ v.ownBlock
theorem MatInv.blk {w : World} {B : Nat} {v : Value} {k : Nat} {l : List (List Nat)} (h : MatInv w B v k l) : ∀ g, v.ownBlock = some g → g < w.heap.size := fun g hg => by
  obtain ⟨vs, ho, _⟩ := h; exact (ho.lt g hg).2
/-- A matrix stays where another one grows. -/
theorem MatInv.beside {w w' : World} {B : Nat} {u v : Value} {k n : Nat} {l : List (List Nat)} {vs : List Value} (h : MatInv w B u k l) (hv : w.ownsRow B 24 1 v n vs) (hg : w.grownBy w' v.ownBlock) (ha : Apart u v) : MatInv w' B u k l := by
  obtain ⟨us, ho, hr⟩ := h
  refine ⟨us, ho.kept hg ha, fun j hj => ?_⟩
  obtain ⟨x, h1, h2⟩ := hr j hj
  refine ⟨x, h1, ?_⟩
  by_cases hn : v.ownBlock = none
  · rw [hn] at hg
    exact h2.ext (ext_below ⟨hg.os, hg.tape, hg.output, hg.size, fun i hi => hg.block i hi (by simp)⟩ rfl)
  · exact h2.grown hg (h2.apart (B' := B) hv (by decide) hn)
theorem RowOk.beside {w w' : World} {B n : Nat} {u v : Value} {xs : List Nat} {vs : List Value} (h : RowOk w B u xs) (hv : w.ownsRow B 24 1 v n vs) (hg : w.grownBy w' v.ownBlock) : RowOk w' B u xs := by
  by_cases hn : v.ownBlock = none
  · rw [hn] at hg
    exact h.ext (ext_below ⟨hg.os, hg.tape, hg.output, hg.size, fun i hi => hg.block i hi (by simp)⟩ rfl)
  · exact h.grown hg (h.apart (B' := B) hv (by decide) hn)
theorem Apart.next {w : World} {B : Nat} {u v v' : Value} {k : Nat} {l : List (List Nat)} (h : Apart u v) (hu : MatInv w B u k l) (hn : v'.ownBlock = v.ownBlock ∨ ∃ g, v'.ownBlock = some g ∧ w.heap.size ≤ g) : Apart u v' := by
  rcases hn with e | ⟨g, hg, hge⟩
  · unfold Apart; rw [e]; exact h
  · cases hb : u.ownBlock with
    | none => exact .inl hb
    | some b => refine .inr fun e => ?_
                rw [hb, hg] at e
                have := hu.blk b hb
                have e' := Option.some.inj e
                omega
theorem Apart.next' {w : World} {B : Nat} {u v v' : Value} {k : Nat} {l : List (List Nat)} (h : Apart v u) (hu : MatInv w B u k l) (hn : v'.ownBlock = v.ownBlock ∨ ∃ g, v'.ownBlock = some g ∧ w.heap.size ≤ g) : Apart v' u := by
  rcases hn with e | ⟨g, hg, hge⟩
  · unfold Apart; rw [e]; exact h
  · refine .inr fun e => ?_
    rw [hg] at e
    have := hu.blk g e.symm
    omega
theorem Apart.symm {u v : Value} (h : Apart u v) (hu : u.ownBlock ≠ none ∨ v.ownBlock = none) : Apart v u := by
  rcases h with h | h
  · rcases hu with hu | hu
    · exact absurd h hu
    · exact .inl hu
  · exact .inr (Ne.symm h)
end Go.Proofs.YtippckajlghimaaGreatDoor
/- As base/XGrow, where what is carried out may write too, into one block B: what is taken does not read it. -/
namespace Go.Proofs.YtippckajlghimaaGreatDoor
set_option maxRecDepth 20000
open Go.RowKit
namespace GrR
open Gr (AnyE check growB pick)
section
variable {P : Program} {ops : Array Oper} {Q : Exit → Act → World → Prop} {md : Region.Mode} {S : World → Prop}
def walk (B : Option Nat) (P : Program) (ops : Array Oper) (Q : Exit → Act → World → Prop) (tail : List Oper) : List (Bool × Oper) → Act → World → Prop
  | [], a, w => wpList P ops Q tail a w
  | (true, o) :: rest, a, w => if Region.wanted o (yielded ops a.tmps) = true then o.wp P a w (fun a' w' => w.grownBy w' B ∧ walk B P ops Q tail rest a' w') Q else walk B P ops Q tail rest (a.put o.dst undef) w
  | (false, o) :: rest, a, w => ∃ v, YieldsIf P ops (fun w' => w.grownBy w' B) o v a ∧ walk B P ops Q tail rest (a.put o.dst v) w
theorem walk_nil {B : Option Nat} {tail : List Oper} {a : Act} {w : World} (h : wpList P ops Q tail a w) : walk B P ops Q tail [] a w := h
/-- An operation that is taken. -/
theorem walk_t {B : Option Nat} {tail : List Oper} {rest : List (Bool × Oper)} {o : Oper} {a : Act} {w : World} (v : Value) (hy : YieldsIf P ops (fun w' => w.grownBy w' B) o v a) (h : walk B P ops Q tail rest (a.put o.dst v) w) :
    walk B P ops Q tail ((false, o) :: rest) a w := ⟨v, hy, h⟩
/-- An operation that is carried out. -/
theorem walk_c {B : Option Nat} {tail : List Oper} {rest : List (Bool × Oper)} {o : Oper} {a : Act} {w : World}
    (h : ∀ K : Act → World → Prop, Shut (∀ a' w', w.grownBy w' B → walk B P ops Q tail rest a' w' → K a' w') → if Region.wanted o (yielded ops a.tmps) = true then o.wp P a w K Q else K (a.put o.dst undef) w) :
    walk B P ops Q tail ((true, o) :: rest) a w := by
  have h0 := h (fun a' w' => w.grownBy w' B ∧ walk B P ops Q tail rest a' w') (fun _ _ h1 h2 => ⟨h1, h2⟩)
  unfold walk
  split
  · rename_i hw; rw [if_pos hw] at h0; exact h0
  · rename_i hw; rw [if_neg hw] at h0; exact h0.2

theorem walk_sound (B : Option Nat) {l : List Oper} {n : Nat} (hsel : Region.noSelect l.toArray = true) (hs : Region.sinkB md l.toArray n = true) (hc : Region.chainB md l.toArray n = true) (hn : n < l.toArray.size)
    (hQ : ∀ d v c a w, Q (.panic c) (Act.put a d v) w → Q (.panic c) a w) :
    ∀ (ord : List (Bool × Nat)) (listed : Array Bool) (a : Act) (w : World), HeadInv md l.toArray n listed → check md l.toArray n (l.toArray.size - n) ord listed = true →
      walk B P l.toArray Q (l.drop n) (pick l ord) a w →
      AnyE P md l.toArray Q n (fun listed' a' w' => Region.seqB md l.toArray (l.toArray.size - n) n listed' = true ∧ wpList P l.toArray Q (l.drop n) a' w') (fun w' => w.grownBy w' B) ord.length listed a w
  | [], listed, a, w, _, hB, h => ⟨hB, h⟩
  | (c, i) :: rest, listed, a, w, inv, hB, h => by
    simp only [check, Bool.and_eq_true, decide_eq_true_eq] at hB
    obtain ⟨⟨hin, hr⟩, hB'⟩ := hB
    have hil : i < l.length := by have : l.toArray.size = l.length := by simp
                                  omega
    have ho : l[i]? = some l[i] := List.getElem?_eq_getElem hil
    have hoa : l.toArray[i]? = some l[i] := by simp
    simp only [pick, ho] at h
    cases c with
    | true =>
      simp only [decide_eq_true_eq] at hr
      refine ⟨(by rw [hr]; simp), fun j hj => ?_⟩
      rw [hr] at hj
      obtain rfl : j = i := by simpa using hj
      refine ⟨hin, ?_⟩
      have hrm : j ∈ Region.ready md l.toArray listed := by rw [hr]; simp
      unfold walk at h
      unfold wpOp
      simp only [hoa]
      split
      · rename_i hw
        rw [if_pos hw] at h
        exact .inl (Oper.wp_mono (fun a' w' hk => ⟨hk.1, AnyE.weaken (fun u hu => grown_trans hk.1 hu) _ _ _ _ (walk_sound B hsel hs hc hn hQ rest _ a' w' (inv.set hrm hin) hB' hk.2)⟩) h)
      · rename_i hw
        rw [if_neg hw] at h
        exact ⟨grown_refl w B, walk_sound B hsel hs hc hn hQ rest _ _ w (inv.set hrm hin) hB' h⟩
    | false =>
      simp only [Bool.and_eq_true] at hr
      unfold walk at h
      obtain ⟨v, hy, hK⟩ := h
      have hrm : i ∈ Region.ready md l.toArray listed := by simpa using hr.1
      exact AnyE.first hoa (Region.noSelect_spec hsel) hs hc hn hin (fun c a w => hQ _ v c a w) (fun listed' a' w' hL => seqB_ready hL.1) rest.length listed a w inv (Region.free_spec hoa hr.2) hrm hy (grown_refl w B)
        (walk_sound B hsel hs hc hn hQ rest _ _ w (inv.set hrm hin) hB' hK)

theorem region (B : Option Nat) {id : Nat} {a : Act} {w : World} {l : List Oper} (n : Nat) (ord : List (Bool × Nat)) (hm : P.follows .mixedOrders = true) (hB : growB .any l.toArray n ord = true)
    (hQ : ∀ d v c a w, Q (.panic c) (Act.put a d v) w → Q (.panic c) a w)
    (h : walk B P l.toArray Q (l.drop n) (pick l ord) a w.drew) : (Code.region id l.toArray true).wp P Q a w := by
  simp only [growB, Bool.and_eq_true, decide_eq_true_eq] at hB
  obtain ⟨⟨⟨⟨⟨hsel, hn⟩, hs⟩, hc⟩, hlen⟩, hck⟩ := hB
  have hdl : (l.drop n).length = l.toArray.size - n := by simp
  have inv0 : HeadInv .any l.toArray n (Array.replicate l.toArray.size false) :=
    ⟨by simp, fun j oj _ hl => (by rw [getD_replicate_false] at hl; cases hl), fun t _ ht => getD_in (by simpa using ht) (getD_replicate_false _ _)⟩
  have H := walk_sound B (md := .any) hsel hs hc hn hQ ord _ a w.drew inv0 hck h
  refine wp_region_any hm ?_
  have := AnyE.any (Q := Q) (g := l.toArray.size - n) (fun listed a' w' hL => by
    have := wpAny_of_seq (md := .any) (Q' := Q) (l.drop n) n listed a' w' (fun j => by simp [List.getElem?_drop]) (by rw [hdl]; exact hL.1) hL.2
    rwa [hdl] at this) _ _ _ _ H
  rw [hlen] at this
  exact this
end
end GrR
end Go.Proofs.YtippckajlghimaaGreatDoor
