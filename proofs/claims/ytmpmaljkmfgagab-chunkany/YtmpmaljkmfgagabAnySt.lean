/-
  What the law ChunkAny keeps in memory: the patch, its chunks, those that came, which were seen.
-/
import Derived.Test.YtmpmaljkmfgagabChunkC
import Derived.Test.YtmpmaljkmfgagabRowToOpenN
import Derived.Maps.OwnSet
namespace Go.Proofs.Ytmpmaljkmfgagab
open Go.RowKit Go.Maps

theorem Try.keyedInt : Keyed Try.prog 3 := int_keyed Try.underlying3
/-- which were seen, as a map -/
def MapSt (W : World) (Mb n K : Nat) (seen : Nat → Bool) : Prop :=
  ∃ D : DataW Unit, W.ownsMap Try.prog 3 (plainElem Try.prog 4) Mb n D ∧ (∀ j : Nat, j < K → Maps.has D (.int .i64 j) = seen j) ∧ Maps.size D = ChunkM.seenN K seen
theorem MapSt.keep {W W' : World} {Mb n K : Nat} {seen : Nat → Bool} (h : MapSt W Mb n K seen) (hk : W'.heap[Mb]? = W.heap[Mb]?) : MapSt W' Mb n K seen := by
  obtain ⟨D, ⟨es, cl, h1, h2⟩, h3⟩ := h
  exact ⟨D, ⟨es, cl, hk.trans h1, h2⟩, h3⟩
theorem MapSt.blk {W : World} {Mb n K : Nat} {seen : Nat → Bool} (h : MapSt W Mb n K seen) : ∃ es cl, W.heap[Mb]? = some (.map es cl) := by
  obtain ⟨D, ⟨es, cl, h1, h2⟩, h3⟩ := h
  exact ⟨es, cl, h1⟩
theorem MapSt.start (W : World) (K : Nat) : MapSt (W.alloc (.map #[] 0)) W.heap.size 0 K (fun _ => false) :=
  ⟨.map [], World.ownsMap_made _ _ _ _, fun _ _ => rfl, by rw [ChunkM.seenN_zero]; rfl⟩
theorem MapSt.len {W : World} {Mb n K : Nat} {seen : Nat → Bool} (h : MapSt W Mb n K seen) (ty : TypeId) : (Builtin.len_ #[78] ty #[.map (some Mb)]).run Try.prog W = .ok (.int .i64 (ChunkM.seenN K seen : Nat)) W := by
  obtain ⟨D, h1, h2, h3⟩ := h
  rw [h1.len Try.underlying78 ty, h3]
theorem MapSt.update {W : World} {Mb n K : Nat} {seen : Nat → Bool} (h : MapSt W Mb n K seen) (k : Nat) (hk : k < K) (hK : K ≤ 1000) (hn : n ≤ 1000) :
    ∃ W', (Instr.mapUpdate 78 (.map (some Mb)) (.int .i64 (k : Int)) (.bool true)).run Try.prog W = .ok () W' ∧ MapSt W' Mb (n + 1) K (fun j => seen j || decide (j = k)) ∧ W.grownBy W' (some Mb) := by
  obtain ⟨D, h1, h2, h3⟩ := h
  have hwf : ∀ j : Nat, j < K → (Lit.int .i64 (j : Int)).wf = true := fun j hj => by
    have e1 : IntKind.i64.min = -9223372036854775808 := rfl
    have e2 : IntKind.i64.max = 9223372036854775807 := rfl
    simp only [Lit.wf, Bool.and_eq_true, decide_eq_true_eq]
    omega
  obtain ⟨W', hr, ho, hg⟩ := h1.update Try.keyedInt Try.underlying78 (by unfold maxLen; omega) (keyOf_int_mk Try.underlying3 (hwf k hk)) (plainElem_bool Try.underlying4 true)
  refine ⟨W', hr, ⟨_, ho, fun j hj => ?_, ?_⟩, hg⟩
  · by_cases hjk : j = k
    · subst hjk
      rw [has_put_same h1.isMap (show WideAt.IsKeyLit (.int .i64 (j : Int)) from trivial)]
      simp
    · rw [has_put_other (by intro e; injection e with _ e; omega), h2 j hj]
      simp [hjk]
  · rw [size_put (h1.tidy Try.keyedInt), ChunkM.seenN_add seen hk, h2 k hk, h3]
    split <;> rfl

/-- the memory of ChunkAny -/
structure AnySt (w : World) (P L G S Mb : Nat) (p : PatR) (pa : Option Addr) (pn pc : Nat) (la : Option Addr) (ln lc : Nat) (o : List Int) (n : Nat) (seen : Nat → Bool) (W : World) : Prop where
  pb : W.heap[P]? = some (.cells #[.int .i64 p.from_, .int .i64 p.to_, .int .i64 p.old, .int .i64 p.new, .int .i64 p.size, .slice pa pn pc] 41 (0, 0))
  lb : W.heap[L]? = some (.cells #[.slice la ln lc] 67 (0, 0))
  lcs : CS W la ln lc (ChunkM.cutL p.from_ p.to_ o)
  g : ∃ ga gn gc, W.heap[G]? = some (.cells #[.slice ga gn gc] 67 (0, 0)) ∧ CS W ga gn gc (ChunkM.some_ p.from_ p.to_ o seen)
  sb : W.heap[S]? = some (.cells #[.map (some Mb)] 78 (0, 0))
  mp : MapSt W Mb n (ChunkM.parts o) seen
  ne : L ≠ G
  leG : w.heap.size ≤ G
  leM : w.heap.size ≤ Mb
  below : Below w.heap.size w W
section
variable {w : World} {P L G S Mb : Nat} {p : PatR} {pa : Option Addr} {pn pc : Nat} {la : Option Addr} {ln lc : Nat} {o : List Int} {n : Nat} {seen : Nat → Bool} {W W' : World}
theorem lt_blk9 {W : World} {g : Nat} {o : Obj} (h : W.heap[g]? = some o) : g < W.heap.size := by
  rcases Nat.lt_or_ge g W.heap.size with hlt | hge
  · exact hlt
  · rw [Array.getElem?_eq_none hge] at h; cases h
theorem AnySt.later (h : AnySt w P L G S Mb p pa pn pc la ln lc o n seen W) (hb : Below W.heap.size W W') : AnySt w P L G S Mb p pa pn pc la ln lc o n seen W' := by
  obtain ⟨ga, gn, gc, h1, h2⟩ := h.g
  obtain ⟨es, cl, hM⟩ := h.mp.blk
  exact ⟨(hb.block _ (lt_blk9 h.pb)).trans h.pb, (hb.block _ (lt_blk9 h.lb)).trans h.lb, h.lcs.later hb, ⟨ga, gn, gc, (hb.block _ (lt_blk9 h1)).trans h1, h2.later hb⟩, (hb.block _ (lt_blk9 h.sb)).trans h.sb, h.mp.keep (hb.block _ (lt_blk9 hM)), h.ne, h.leG, h.leM, below_then h.below hb⟩
/-- those that came, and which were seen, are turned -/
theorem AnySt.turn (h : AnySt w P L G S Mb p pa pn pc la ln lc o n seen W) {xa : Option Addr} {xn xc : Nat} {seen' : Nat → Bool} {n' : Nat} (hx : CS W xa xn xc (ChunkM.some_ p.from_ p.to_ o seen')) (e1 : W'.os = W.os) (e2 : W'.tape = W.tape) (e3 : W'.output = W.output) (hs : W.heap.size ≤ W'.heap.size)
    (hk : ∀ k, k < W.heap.size → k ≠ G → k ≠ Mb → W'.heap[k]? = W.heap[k]?) (hG : W'.heap[G]? = some (.cells #[.slice xa xn xc] 67 (0, 0))) (hM : MapSt W' Mb n' (ChunkM.parts o) seen') : AnySt w P L G S Mb p pa pn pc la ln lc o n' seen' W' := by
  obtain ⟨ga, gn, gc, h1, h2⟩ := h.g
  obtain ⟨es, cl, hm⟩ := h.mp.blk
  have hPG : P ≠ G := by rintro rfl; have := h.pb.symm.trans h1; simp at this
  have hPM : P ≠ Mb := by rintro rfl; have := h.pb.symm.trans hm; simp at this
  have hLM : L ≠ Mb := by rintro rfl; have := h.lb.symm.trans hm; simp at this
  have hSG : S ≠ G := by rintro rfl; have := h.sb.symm.trans h1; simp at this
  have hSM : S ≠ Mb := by rintro rfl; have := h.sb.symm.trans hm; simp at this
  have hk' : ∀ k, k ≠ G → k ≠ Mb → k < W.heap.size → W'.heap[k]? = W.heap[k]? := fun k k1 k2 k3 => hk k k3 k1 k2
  -- a world that is W but for the two blocks and what is new
  have hcs : ∀ {a : Option Addr} {n c : Nat} {l : List ChR}, CS W a n c l → CS W' a n c l := by
    intro a n c l hc
    refine ⟨hc.len, hc.le, hc.max, fun hp => ?_, hc.none_⟩
    obtain ⟨b, off, e, hcc⟩ := hc.cells hp
    refine ⟨b, off, e, fun i hi => ?_⟩
    obtain ⟨va, vm, vc, q0, q1, q2, q3, q4, q5, q6⟩ := hcc i hi
    have hlt : b < W.heap.size := World.block_lt_of_cell? W _ q0
    have hne : b ≠ G := by
      rintro rfl
      simp only [World.cell?, h1] at q0
      generalize off + i * 5 = j at q0
      match j with
      | 0 => simp at q0
      | j + 1 => simp at q0
    have hne2 : b ≠ Mb := by
      rintro rfl
      simp only [World.cell?, hm] at q0
      simp at q0
    have hcell : ∀ j, W'.cell? ⟨b, j, none⟩ = W.cell? ⟨b, j, none⟩ := fun j => by simp only [World.cell?, hk' b hne hne2 hlt]
    have hbs : BS W' va vm vc (l.getD i default).data := by
      refine ⟨q5.len, q5.le, q5.max, q5.bytes, fun hp' => ?_, q5.none_⟩
      obtain ⟨b', off', e', hc'⟩ := q5.cells hp'
      refine ⟨b', off', e', fun j hj => ?_⟩
      have h9 := hc' j hj
      have hlt' : b' < W.heap.size := World.block_lt_of_cell? W _ h9
      have hne' : b' ≠ G := by
        rintro rfl
        simp only [World.cell?, h1] at h9
        generalize off' + j = j' at h9
        match j' with
        | 0 => simp at h9
        | j' + 1 => simp at h9
      have hne2' : b' ≠ Mb := by
        rintro rfl
        simp only [World.cell?, hm] at h9
        simp at h9
      rw [← h9]
      simp only [World.cell?, hk' b' hne' hne2' hlt']
    exact ⟨va, vm, vc, by rw [hcell]; exact q0, by rw [hcell]; exact q1, by rw [hcell]; exact q2, by rw [hcell]; exact q3, by rw [hcell]; exact q4, hbs, q6⟩
  refine ⟨(hk' P hPG hPM (lt_blk9 h.pb)).trans h.pb, (hk' L h.ne hLM (lt_blk9 h.lb)).trans h.lb, hcs h.lcs, ⟨xa, xn, xc, hG, hcs hx⟩, (hk' S hSG hSM (lt_blk9 h.sb)).trans h.sb, hM, h.ne, h.leG, h.leM, ?_⟩
  refine ⟨e1.trans h.below.os, e2.trans h.below.tape, e3.trans h.below.output, Nat.le_trans h.below.size hs, fun k hkk => ?_⟩
  have h9 := h.below.size
  have h8 := h.leG
  have h7 := h.leM
  rw [hk' k (by omega) (by omega) (by omega), h.below.block k hkk]
end
end Go.Proofs.Ytmpmaljkmfgagab
