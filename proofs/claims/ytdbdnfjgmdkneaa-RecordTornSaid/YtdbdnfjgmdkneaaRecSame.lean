/- SameRecord of two records that read alike. -/
import Derived.Test.YtdbdnfjgmdkneaaRec
import Derived.Test.YtdbdnfjgmdkneaaConv
import Derived.Handy
import Derived.Deep.DeepCutAuto
import Derived.Lib.Hide
namespace Go.Proofs.Ytdbdnfjgmdkneaa
set_option maxRecDepth 20000
open Go.RowKit Go.Deep
set_option linter.unusedVariables false
theorem conv_ob {w : World} {v : Value} {xs : List Nat} (h : U8s w v xs) : (convert 26 9 v).run Try.prog w = .ok (.string (strOf xs)) w := conv_any h _ _ _ Try.underlying26 Try.underlying5 Try.underlying9
set_option maxHeartbeats 1000000 in
theorem same_rec (r : Rc) (a a' : Option Addr) (c c' : Nat) (w : World) (hu : U8s w (.slice a r.d.length c) r.d) (hu' : U8s w (.slice a' r.d.length c') r.d) :
    Calls Try.prog 20 #[r.val (.slice a r.d.length c), r.val (.slice a' r.d.length c')] w fun e w' => e = .returned (.bool true) ∧ w.Extends w' := by
  obtain ⟨p, n, b, s, m, k, e, g, u, d⟩ := r
  have HU : Hid (U8s w (.slice a d.length c) d) := hu
  have HU' : Hid (U8s w (.slice a' d.length c') d) := hu'
  clear hu hu'
  show Calls Try.prog 20 #[.agg #[.int .i64 p, .int .i64 n, .int .i64 b, .int .i64 s, .int .i64 m, .int .i64 k, .int .i64 e, .bool g, .int .i64 u, .slice a d.length c], .agg #[.int .i64 p, .int .i64 n, .int .i64 b, .int .i64 s, .int .i64 m, .int .i64 k, .int .i64 e, .bool g, .int .i64 u, .slice a' d.length c']] w _
  go_enter Try.func20, Try.ntmps20
  go_upto_region 1 with fail
  generalize hw1 : World.alloc w _ = w1
  generalize hw2 : World.alloc w1 _ = w2
  have hs1 : w1.heap.size = w.heap.size + 1 := by subst hw1; simp
  have hx1 : w.Extends w1 := by subst hw1; exact ext_alloc _ _
  have hx2 : w1.Extends w2 := by subst hw2; exact ext_alloc _ _
  have hb1 : w1.rangeAt w.heap.size 0 (Rc.cells ⟨p, n, b, s, m, k, e, g, u, d⟩ (.slice a d.length c)) := by subst hw1; exact box_rec w 28 ⟨p, n, b, s, m, k, e, g, u, d⟩ _
  have hb2 : w2.rangeAt w1.heap.size 0 (Rc.cells ⟨p, n, b, s, m, k, e, g, u, d⟩ (.slice a' d.length c')) := by subst hw2; exact box_rec w1 28 ⟨p, n, b, s, m, k, e, g, u, d⟩ _
  have hb1' := rangeAt_ext hb1 hx2
  rw [hs1] at hb2
  clear hw1 hw2 hb1 hs1
  have hx := Gr.ext_trans hx1 hx2
  have hv1 := conv_ob (HU.out.ext hx)
  have hv2 := conv_ob (HU'.out.ext hx)
  generalize w.heap.size = x at *
  have a0 : w2.cell? ⟨x, 0, none⟩ = some (.int .i64 p) := hb1' 0 _ rfl
  have a1 : w2.cell? ⟨x, 1, none⟩ = some (.int .i64 n) := hb1' 1 _ rfl
  have a2 : w2.cell? ⟨x, 2, none⟩ = some (.int .i64 b) := hb1' 2 _ rfl
  have a3 : w2.cell? ⟨x, 3, none⟩ = some (.int .i64 s) := hb1' 3 _ rfl
  have a4 : w2.cell? ⟨x, 4, none⟩ = some (.int .i64 m) := hb1' 4 _ rfl
  have a5 : w2.cell? ⟨x, 5, none⟩ = some (.int .i64 k) := hb1' 5 _ rfl
  have a6 : w2.cell? ⟨x, 6, none⟩ = some (.int .i64 e) := hb1' 6 _ rfl
  have a7 : w2.cell? ⟨x, 7, none⟩ = some (.bool g) := hb1' 7 _ rfl
  have a8 : w2.cell? ⟨x, 8, none⟩ = some (.int .i64 u) := hb1' 8 _ rfl
  have a9 : w2.cell? ⟨x, 9, none⟩ = some (.slice a d.length c) := hb1' 9 _ rfl
  have b0 : w2.cell? ⟨x + 1, 0, none⟩ = some (.int .i64 p) := hb2 0 _ rfl
  have b1 : w2.cell? ⟨x + 1, 1, none⟩ = some (.int .i64 n) := hb2 1 _ rfl
  have b2 : w2.cell? ⟨x + 1, 2, none⟩ = some (.int .i64 b) := hb2 2 _ rfl
  have b3 : w2.cell? ⟨x + 1, 3, none⟩ = some (.int .i64 s) := hb2 3 _ rfl
  have b4 : w2.cell? ⟨x + 1, 4, none⟩ = some (.int .i64 m) := hb2 4 _ rfl
  have b5 : w2.cell? ⟨x + 1, 5, none⟩ = some (.int .i64 k) := hb2 5 _ rfl
  have b6 : w2.cell? ⟨x + 1, 6, none⟩ = some (.int .i64 e) := hb2 6 _ rfl
  have b7 : w2.cell? ⟨x + 1, 7, none⟩ = some (.bool g) := hb2 7 _ rfl
  have b8 : w2.cell? ⟨x + 1, 8, none⟩ = some (.int .i64 u) := hb2 8 _ rfl
  have b9 : w2.cell? ⟨x + 1, 9, none⟩ = some (.slice a' d.length c') := hb2 9 _ rfl
  have HX := Lib.hid hx
  clear hb1' hb2 HU HU' hx1 hx2 hx
  generalize strOf d = sd at *
  generalize d.length = dl at *
  go_wp2
  go_ret
  exact ⟨by cases g <;> rfl, HX.out⟩
end Go.Proofs.Ytdbdnfjgmdkneaa
