/-
  Structs and arrays compared whole: what is in a slot, records, copies.
-/
import Derived.Test.YtmpmaljkmfgagacRecL
import Derived.DeepKeys
import Derived.Laws.StructEq
namespace Go.Proofs.Ytmpmaljkmfgagac
open Go.RowKit

section
variable {P : Program} {w : World} {d : Nat} {xs ys : Array Value}
theorem fields_nil : (Op.eqFields d xs ys []).run P w = .ok (decide True) w := by simp [Op.eqFields]
theorem fields_cons {f : Field} {fs : List Field} {a b : Value} {p q : Prop} [Decidable p] [Decidable q] (hn : f.name ≠ "_") (ha : (part f.type xs f.offset).run P w = .ok a w) (hb : (part f.type ys f.offset).run P w = .ok b w)
    (he : (Op.equalIn d f.type a b).run P w = .ok (decide p) w) (hr : (Op.eqFields d xs ys fs).run P w = .ok (decide q) w) : (Op.eqFields d xs ys (f :: fs)).run P w = .ok (decide (p ∧ q)) w := by
  simp only [Op.eqFields, if_pos hn, Sem.run_bind, ha, hb, he, Result.andThen_ok]
  by_cases hp : p
  · simp only [hp, decide_true, Bool.not_true, Bool.false_eq_true, if_false, hr, true_and]
  · simp [hp]
theorem items_nil {e : TypeId} {c : Nat} : (Op.eqItems d e c xs ys []).run P w = .ok (decide True) w := by simp [Op.eqItems]
theorem items_cons {e : TypeId} {c i : Nat} {is : List Nat} {a b : Value} {p q : Prop} [Decidable p] [Decidable q] (ha : (part e xs (i * c)).run P w = .ok a w) (hb : (part e ys (i * c)).run P w = .ok b w)
    (he : (Op.equalIn d e a b).run P w = .ok (decide p) w) (hr : (Op.eqItems d e c xs ys is).run P w = .ok (decide q) w) : (Op.eqItems d e c xs ys (i :: is)).run P w = .ok (decide (p ∧ q)) w := by
  simp only [Op.eqItems, Sem.run_bind, ha, hb, he, Result.andThen_ok]
  by_cases hp : p
  · simp only [hp, decide_true, Bool.not_true, Bool.false_eq_true, if_false, hr, true_and]
  · simp [hp]
theorem int_equal {t : TypeId} (ht : P.underlying t = some (.int .i64)) (a b : Int) : (Op.equalIn (d + 1) t (.int .i64 a) (.int .i64 b)).run P w = .ok (decide (a = b)) w := by
  rw [run_equalIn_int w d t .i64 .i64 a b ht]
  by_cases h : a = b <;> simp [h]
theorem bool_equal {t : TypeId} (ht : P.underlying t = some .bool) (a b : Bool) : (Op.equalIn (d + 1) t (.bool a) (.bool b)).run P w = .ok (decide (a = b)) w := by
  rw [run_equalIn_bool' w d t a b ht]
  cases a <;> cases b <;> rfl
theorem ok_iff {p q : Prop} [Decidable p] [Decidable q] {x : Result Bool} (h : p ↔ q) (hx : x = .ok (decide p) w) : x = .ok (decide q) w := by
  rw [hx]
  by_cases hp : p
  · simp [hp, h.1 hp]
  · have : ¬ q := fun k => hp (h.2 k)
    simp [hp, this]
end
set_option maxRecDepth 100000 in
theorem inf_equal (d : Nat) (a b : InfR) (w : World) : (Op.equalIn (d + 2) 23 (infV a) (infV b)).run Try.prog w = .ok (decide (a = b)) w := by
  unfold infV
  rw [run_equalIn_struct w (d + 1) 23 _ _ (by kernel_rfl) (by kernel_rfl)]
  simp only [Program.fieldsOf, Try.underlying23]
  have hi := Try.underlying3
  refine ok_iff (p := a.ver = b.ver ∧ a.size = b.size ∧ a.sum = b.sum ∧ True) (by rw [InfR.eq_iff, and_true]) ?_
  exact fields_cons (by decide) (by kernel_rfl) (by kernel_rfl) (int_equal hi _ _) (fields_cons (by decide) (by kernel_rfl) (by kernel_rfl) (int_equal hi _ _) (fields_cons (by decide) (by kernel_rfl) (by kernel_rfl) (int_equal hi _ _) fields_nil))
set_option maxRecDepth 100000 in
theorem infs_equal (d : Nat) (a0 a1 b0 b1 : InfR) (w : World) : (Op.equalIn (d + 3) 24 (.agg #[.int .i64 a0.ver, .int .i64 a0.size, .int .i64 a0.sum, .int .i64 a1.ver, .int .i64 a1.size, .int .i64 a1.sum]) (.agg #[.int .i64 b0.ver, .int .i64 b0.size, .int .i64 b0.sum, .int .i64 b1.ver, .int .i64 b1.size, .int .i64 b1.sum])).run Try.prog w = .ok (decide (a0 = b0 ∧ a1 = b1)) w := by
  obtain ⟨i, hi⟩ : ∃ i, Try.prog.info? 23 = some i := info_of_underlying Try.underlying23
  rw [run_equalIn_array w (d + 2) _ _ Try.underlying24 hi]
  have hc : Try.prog.cellsOf 23 = 3 := by kernel_rfl
  rw [hc]
  refine ok_iff (p := a0 = b0 ∧ a1 = b1 ∧ True) (by rw [and_true]) ?_
  exact items_cons (by kernel_rfl) (by kernel_rfl) (inf_equal d a0 b0 w) (items_cons (by kernel_rfl) (by kernel_rfl) (inf_equal d a1 b1 w) items_nil)
set_option maxRecDepth 100000 in
theorem rec_equal (d : Nat) (a b : RecR) (w : World) : (Op.equalIn (d + 4) 26 (recV a) (recV b)).run Try.prog w = .ok (decide (a = b)) w := by
  unfold recV
  rw [run_equalIn_struct w (d + 3) 26 _ _ (by kernel_rfl) (by kernel_rfl)]
  simp only [Program.fieldsOf, Try.underlying26]
  have hi := Try.underlying3
  have hb := Try.underlying4
  refine ok_iff (p := a.gen = b.gen ∧ a.act = b.act ∧ a.trying = b.trying ∧ a.tries = b.tries ∧ a.floor = b.floor ∧ (a.i0 = b.i0 ∧ a.i1 = b.i1) ∧ True) (by rw [RecR.eq_iff, and_true]) ?_
  exact fields_cons (by decide) (by kernel_rfl) (by kernel_rfl) (int_equal hi _ _) (fields_cons (by decide) (by kernel_rfl) (by kernel_rfl) (int_equal hi _ _) (fields_cons (by decide) (by kernel_rfl) (by kernel_rfl) (bool_equal hb _ _)
    (fields_cons (by decide) (by kernel_rfl) (by kernel_rfl) (int_equal hi _ _) (fields_cons (by decide) (by kernel_rfl) (by kernel_rfl) (int_equal hi _ _) (fields_cons (by decide) (by kernel_rfl) (by kernel_rfl) (infs_equal d _ _ _ _ w) fields_nil)))))
set_option maxRecDepth 100000 in
theorem cop_equal (d : Nat) (a b : CopR) (w : World) : (Op.equalIn (d + 5) 28 (copV a) (copV b)).run Try.prog w = .ok (decide (a = b)) w := by
  unfold copV
  rw [run_equalIn_struct w (d + 4) 28 _ _ (by kernel_rfl) (by kernel_rfl)]
  simp only [Program.fieldsOf, Try.underlying28]
  have hb := Try.underlying4
  refine ok_iff (p := a.ok = b.ok ∧ a.r = b.r ∧ True) (by rw [CopR.eq_iff, and_true]) ?_
  exact fields_cons (by decide) (by kernel_rfl) (by kernel_rfl) (bool_equal hb _ _) (fields_cons (by decide) (by kernel_rfl) (by kernel_rfl) (rec_equal d a.r b.r w) fields_nil)
set_option maxRecDepth 100000 in
theorem cops_equal (d : Nat) (a b : CopsR) (w : World) : (Op.equalIn (d + 6) 29 (copsV a) (copsV b)).run Try.prog w = .ok (decide (a = b)) w := by
  unfold copsV copsCells
  obtain ⟨i, hi⟩ : ∃ i, Try.prog.info? 28 = some i := info_of_underlying Try.underlying28
  rw [run_equalIn_array w (d + 5) _ _ Try.underlying29 hi]
  have hc : Try.prog.cellsOf 28 = 12 := by kernel_rfl
  rw [hc]
  refine ok_iff (p := a.c0 = b.c0 ∧ a.c1 = b.c1 ∧ True) (by rw [CopsR.eq_iff, and_true]) ?_
  exact items_cons (by kernel_rfl) (by kernel_rfl) (cop_equal d a.c0 b.c0 w) (items_cons (by kernel_rfl) (by kernel_rfl) (cop_equal d a.c1 b.c1 w) items_nil)

/-- '==' and '!=' -/
theorem inf_neq (a b : InfR) (w : World) : (binOp .neq 23 (infV a) (infV b)).run Try.prog w = .ok (.bool (!decide (a = b))) w := by
  have h := inf_equal 9998 a b w
  unfold infV at h ⊢
  rw [run_neq_struct, h]
  rfl
theorem rec_neq (a b : RecR) (w : World) : (binOp .neq 26 (recV a) (recV b)).run Try.prog w = .ok (.bool (!decide (a = b))) w := by
  have h := rec_equal 9996 a b w
  unfold recV at h ⊢
  rw [run_neq_struct, h]
  rfl
theorem rec_eql (a b : RecR) (w : World) : (binOp .eql 26 (recV a) (recV b)).run Try.prog w = .ok (.bool (decide (a = b))) w := by
  have h := rec_equal 9996 a b w
  unfold recV at h ⊢
  rw [run_eql_struct, h]
  rfl
theorem cop_eql (a b : CopR) (w : World) : (binOp .eql 28 (copV a) (copV b)).run Try.prog w = .ok (.bool (decide (a = b))) w := by
  have h := cop_equal 9995 a b w
  unfold copV at h ⊢
  rw [run_eql_struct, h]
  rfl
theorem cops_neq (a b : CopsR) (w : World) : (binOp .neq 29 (copsV a) (copsV b)).run Try.prog w = .ok (.bool (!decide (a = b))) w := by
  have h := cops_equal 9994 a b w
  unfold copsV at h ⊢
  rw [run_neq_struct, h]
  rfl
end Go.Proofs.Ytmpmaljkmfgagac
