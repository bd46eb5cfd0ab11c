/- A bucket somewhere in a block: its cells; Drop. -/
import Derived.Test.YtmbbhmmciidfnaaBkDel
import Derived.Deep.DeepCutAuto
import Derived.BigQuiet
import Derived.Handy
namespace Go.Proofs.Ytmbbhmmciidfnaa
set_option maxRecDepth 20000
open Go.RowKit Go.Deep
set_option linter.unusedVariables false
theorem CAt.split {w : World} {g : Nat} {T : TypeId} {pre post : List Value} {a b : List Ct} : CAt w g T pre (a ++ b) post ↔ CAt w g T pre a (flatC b ++ post) := by
  unfold CAt
  rw [flatC_append, ← List.append_assoc, ← List.append_assoc]
/-- Behind pre in block g of type T lies a bucket with the contacts l. -/
structure BAt (w : World) (g : Nat) (T : TypeId) (pre : List Value) (l : List Ct) (post : List Value) : Prop where
  le : l.length ≤ 3
  at_ : CAt w g T pre (l ++ List.replicate (3 - l.length) z21) (.int .i64 (l.length : Nat) :: post)
theorem cgrown_set (w : World) (a : Addr) (v : Value) : w.grownBy (w.setCell a v) (some a.block) := ⟨rfl, rfl, rfl, by simp, fun k _ hk => heap_setCell_other w a k v (fun e => hk (by rw [e]))⟩
section
variable {w w' : World} {g : Nat} {T : TypeId} {pre post : List Value} {l : List Ct}
theorem BAt.lt (h : BAt w g T pre l post) : g < w.heap.size := h.at_.lt
theorem BAt.kept (h : BAt w g T pre l post) (hk : w'.heap[g]? = w.heap[g]?) : BAt w' g T pre l post := ⟨h.le, h.at_.kept hk⟩
theorem BAt.ext (h : BAt w g T pre l post) (hx : w.Extends w') : BAt w' g T pre l post := ⟨h.le, h.at_.ext hx⟩
theorem BAt.grown {r : Option Nat} (h : BAt w g T pre l post) (hg : w.grownBy w' r) (hr : some g ≠ r) : BAt w' g T pre l post := h.kept (hg.block g h.lt hr)
theorem three_len (h : l.length ≤ 3) : (l ++ List.replicate (3 - l.length) z21).length = 3 := by rw [List.length_append, List.length_replicate]; omega
theorem CAt.behind {L : List Ct} {n o : Nat} {v : Value} (h : CAt w g T pre L (v :: post)) (hL : L.length = n) (ho : o = pre.length + n * 21) : w.cell? ⟨g, o, none⟩ = some v := by
  rw [cell_of_row _ _ _ _ _ _ h, List.getElem?_toArray, List.getElem?_append_right (by rw [List.length_append, flatC_length]; omega), List.length_append, flatC_length, hL, ho, Nat.sub_self]
  rfl
theorem CAt.set_behind {L : List Ct} {n o : Nat} {v u : Value} (h : CAt w g T pre L (v :: post)) (hL : L.length = n) (ho : o = pre.length + n * 21) (hw : w' = w.setCell ⟨g, o, none⟩ u) : CAt w' g T pre L (u :: post) ∧ w.grownBy w' (some g) := by
  subst hw
  refine ⟨?_, cgrown_set _ _ _⟩
  unfold CAt
  rw [heap_setCell_same _ _ _ _ _ _ h]
  have e : o = (pre ++ flatC L).length := by rw [List.length_append, flatC_length, hL, ho]
  rw [e]
  simp
theorem BAt.count (h : BAt w g T pre l post) {o : Nat} (ho : pre.length = o) : w.cell? ⟨g, o + 63, none⟩ = some (.int .i64 (l.length : Nat)) := h.at_.behind (three_len h.le) (by omega)
theorem BAt.frozen (h : BAt w g T pre l post) (o : Nat) : w.frozen? ⟨g, o, none⟩ = false := h.at_.frozen o
theorem BAt.new (w : World) (T : TypeId) : BAt (w.alloc (.cells (flatC [z21, z21, z21] ++ [Value.int .i64 0]).toArray T)) w.heap.size T [] [] [] := by
  refine ⟨Nat.zero_le _, ?_⟩
  unfold CAt
  rw [heap_alloc_new, List.nil_append]
  rfl
end
/-- The contacts of other peers than p. -/
def dropC (p : Int) (l : List Ct) : List Ct := cfilt (fun c => decide (c.p = p)) l
theorem dropC_le (p : Int) (l : List Ct) : (dropC p l).length ≤ l.length := List.length_filter_le _ _
/-- Does Drop answer true? -/
def isIn (p : Int) (l : List Ct) : Bool := decide ((dropC p l).length < l.length)
/-- The closure of Drop. -/
theorem dropfn_any (c : Nat) (p : Int) (w : World) (hp : w.heap[c]? = some (.cells #[.int .i64 p] 3 (0, 0))) : CTells 14 c (fun x => decide (x.p = p)) w := by
  intro x w' hw
  have h1 : w'.cell? ⟨c, 0, none⟩ = some (.int .i64 p) := by rw [cell_of_row _ _ _ _ _ _ (hw.trans hp)]; rfl
  have hlt : c < w'.heap.size := World.block_lt_of_cell? w' _ h1
  obtain ⟨q, hq⟩ : ∃ q, decide (x.p = p) = q := ⟨_, rfl⟩
  have hq2 : (x.p == p) = q := by rw [← hq, Bool.eq_iff_iff, beq_iff_eq, decide_eq_true_eq]
  show Calls _ _ _ _ fun e w2 => e = .returned (.bool (decide (x.p = p))) ∧ _
  rw [hq]
  have HB : Hid (∀ wb, wb = w'.alloc (.cells (CL x).toArray 28) → w'.Extends wb ∧ wb.cell? ⟨c, 0, none⟩ = some (.int .i64 p) ∧ wb.cell? ⟨w'.heap.size, 0, none⟩ = some (.int .i64 x.p)) := fun wb e => by
    subst e
    exact ⟨ext_alloc _ _, (ext_alloc _ _).cell_of h1, range_peer ((CAt.box w' 28 x).range (o := 0) (k := 0) rfl Nat.zero_lt_one)⟩
  generalize x.p = xp at *
  clear hq hp hw
  go_enter Try.func14, Try.ntmps14
  go_upto_region 1 with fail
  generalize hwb : World.alloc w' _ = wb
  obtain ⟨hx, h3, h4⟩ := HB.out wb hwb.symm
  have HX := Lib.hid hx
  clear hwb hx h1
  go_wp2
  go_ret
  exact ⟨rfl, HX.out⟩
end Go.Proofs.Ytmbbhmmciidfnaa
