/- One product by the table. -/
import Derived.Test.YtkpgdgmjeoogdaaRowTab
namespace Go.Proofs.Ytkpgdgmjeoogdaa
open Go.RowKit
set_option linter.unusedVariables false
theorem u8_and15 : ∀ a : Nat, a < 256 → bits .and .u8 (a : Int) 15 = ((a % 16 : Nat) : Int) := by decide +kernel
set_option maxHeartbeats 1000000 in
theorem of_any (g c a : Nat) (hc : c < 256) (ha : a < 256) (w : World) (hr : w.rowIs g 60 32 (fun i => .int .u8 (tabTo c 16 16 i : Nat))) :
    Calls Try.prog 36 #[.pointer (some ⟨g, 0, none⟩), .int .u8 a] w fun e w' => e = .returned (.int .u8 (FM.tm c a : Nat)) ∧ Below w.heap.size w w' := by
  have e1 := u8_and15 a ha
  have hlo : a % 16 < 16 := Nat.mod_lt _ (by omega)
  have hhi : a / 16 < 16 := by omega
  have hc1 : w.cell? ⟨g, a % 16, none⟩ = some (.int .u8 (FM.tm c (a % 16) : Nat)) := by
    rw [hr.cell (i := a % 16) (by omega), tabTo, if_pos hlo, if_pos hlo]
  have hc2 : w.cell? ⟨g, 16 + a / 16, none⟩ = some (.int .u8 (FM.tm c (a / 16 * 16) : Nat)) := by
    rw [hr.cell (i := 16 + a / 16) (by omega), tabTo, if_neg (by omega), if_pos (by omega), show 16 + a / 16 - 16 = a / 16 by omega]
  have hx1 := FM.tm_lt c (a % 16) hc
  have hx2 := FM.tm_lt c (a / 16 * 16) hc
  have HT : Hid (FM.sum [FM.tm c (a % 16), FM.tm c (a / 16 * 16)] = FM.tm c a) := by rw [tab_split c a ha]; simp [FM.sum, Hid]
  have hbl := hr.lt
  have HL1 : Hid (∀ w', w.Extends w' → w'.cell? ⟨g, a % 16, none⟩ = some (.int .u8 (FM.tm c (a % 16) : Nat))) := fun w' hw' => hw'.cell_of hc1
  have HL2 : Hid (∀ w', w.Extends w' → w'.cell? ⟨g, 16 + a / 16, none⟩ = some (.int .u8 (FM.tm c (a / 16 * 16) : Nat))) := fun w' hw' => hw'.cell_of hc2
  clear hc1 hc2 hr
  have hq : ((a : Int) / 16) = ((a / 16 : Nat) : Int) := by omega
  generalize a % 16 = r at *
  generalize a / 16 = q at *
  have hloI : (r : Int) < 16 := by omega
  have hhiI : (q : Int) < 16 := by omega
  generalize hlv : FM.tm c r = lo at *
  generalize hhv : FM.tm c (q * 16) = hi at *
  have HLV := Lib.hid hlv; clear hlv
  have HHV := Lib.hid hhv; clear hhv
  go_enter Try.func36, Try.ntmps36
  go_wp2_with fail
  refine Gr.region 16 [(false,0),(false,1),(false,2),(false,3),(false,4),(false,5),(false,6),(false,7),(false,8),(false,9),(false,10),(false,11),(false,12),(false,13),(true,14),(true,15)] (by kernel_rfl) (by kernel_rfl) (fun d _ _ _ _ h => by cases d <;> exact h) ?_
  simp only [Gr.pick, List.getElem?_cons_zero, List.getElem?_cons_succ, List.drop_succ_cons, List.drop_zero]
  iterate 14
    refine Gr.walk_t ?_ (Or.inl ⟨by rfl, ?_⟩) ?_
    rotate_left
    · intro w' hw'
      have hc1 := HL1.out w' (Gr.of_drew hw')
      have hc2 := HL2.out w' (Gr.of_drew hw')
      clear hw'
      go_simp
      try with_reducible rfl
    simp only [Act.put, List.setIfInBounds_toArray, List.set_cons_zero, List.set_cons_succ]
  refine Gr.walk_c (fun K hK => ?_)
  go_simp
  refine hK.out _ _ (ext_below ((Below.refl _ _).alloc (Nat.le_refl _) _) rfl) ?_
  clear hK K
  refine Gr.walk_c (fun K hK => ?_)
  go_simp
  refine (add_any _ [lo, hi] _ (u8s_new _ _ _ _ _ _ _ rfl rfl rfl (by simp [maxLen]) (by simp [hx1, hx2])).drew).mono ?_
  rintro e w' ⟨rfl, rfl⟩
  rw [HT.out]
  try go_simp
  refine hK.out _ _ (Gr.ext_refl _) ?_
  clear hK K
  refine Gr.walk_nil ?_
  go_wp2
  go_ret
  exact ⟨rfl, ((Below.refl _ _).alloc (Nat.le_refl _) _).drew⟩
end Go.Proofs.Ytkpgdgmjeoogdaa
