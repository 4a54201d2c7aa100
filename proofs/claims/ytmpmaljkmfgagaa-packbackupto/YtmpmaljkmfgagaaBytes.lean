/-
  Bytes that a call makes: append onto a row of the call's own, slices.Grow, Concat, Clone.
-/
import Derived.Test.YtmpmaljkmfgagaaRow
namespace Go.Proofs.Ytmpmaljkmfgagaa
open Go.RowKit

theorem Try.info_u8 : (Try.prog.info? 5).map (fun i => (i.zero, i.size, i.bytes)) = some (some (.int .u8 0), 1, 1) := by kernel_rfl

theorem addr_add (b off i : Nat) : (Addr.add ⟨b, off, none⟩ i) = ⟨b, off + i, none⟩ := by
  by_cases e : i = 0
  · subst e; simp [Addr.add]
  · simp [Addr.add, e]

theorem BS.news {w : World} {ad : Addr} {m c : Nat} {l : List Int} (h : BS w (some ad) m c l) : ∀ j u, (l.map (Value.int .u8))[j]? = some u → w.cell? (ad.add j) = some u := by
  intro j u hu
  have hj : j < l.length := by
    rcases Nat.lt_or_ge j l.length with h1 | h1
    · exact h1
    · rw [List.getElem?_eq_none (by simpa using h1)] at hu; cases hu
  obtain ⟨b, off, e, hc⟩ := h.cells (by have := h.len; omega)
  injection e with e
  subst e
  rw [addr_add, hc j (by have := h.len; omega)]
  simp [List.getElem?_eq_getElem hj] at hu ⊢
  exact hu

/-- append(v, s...), v a row of the call's own, or nil: it may grow -/
theorem app_run {w : World} {base : Nat} {v : Value} {n : Nat} {l : List Int} (hown : w.ownsRow base 5 1 v n (l.map (Value.int .u8)))
    {a : Option Addr} {m c : Nat} {l' : List Int} (hs : BS w a m c l') (hb : n + m ≤ 140737488355328) (hbase : base ≤ w.heap.size) :
    ∃ a' c' w', (Builtin.append_ #[27, 27] 27 #[v, .slice a m c]).run Try.prog w = .ok (.slice a' (n + m) c') w' ∧
      w'.ownsRow base 5 1 (.slice a' (n + m) c') (n + m) ((l ++ l').map (Value.int .u8)) ∧ w.grownBy w' v.ownBlock := by
  obtain ⟨i0, hi, hz0, hz1, hz2⟩ := info_parts Try.info_u8
  suffices h : ∃ v' w', (Builtin.append_ #[27, 27] 27 #[v, .slice a m c]).run Try.prog w = .ok v' w' ∧
      w'.ownsRow base 5 1 v' (n + m) ((l ++ l').map (Value.int .u8)) ∧ w.grownBy w' v.ownBlock by
    obtain ⟨v', w', hr, ho, hg⟩ := h
    obtain ⟨a', c', rfl⟩ : ∃ a' c', v' = .slice a' (n + m) c' := by
      rcases ho.2 with ⟨h1, h2⟩ | ⟨g, cap, cur, h1, _⟩
      · exact ⟨none, 0, by rw [h1, h2]⟩
      · exact ⟨_, _, h1⟩
    exact ⟨a', c', w', hr, ho, hg⟩
  cases a with
  | none =>
    have hc := hs.none_ rfl
    subst hc
    obtain rfl : m = 0 := by have := hs.le; omega
    obtain rfl : l' = [] := List.eq_nil_of_length_eq_zero hs.len
    exact ⟨v, w, run_append_owned_none w base 27 _ 5 i0 1 Try.underlying27 hi v n _ hown, by simpa using hown, World.grownBy.refl w _⟩
  | some ad =>
    obtain ⟨v', w', hr, ho, hg, _⟩ := run_append_own (P := Try.prog) w base 27 27 5 i0 _ 1 1 Try.underlying27 hi hz0 hz1 hz2 rfl (by decide) v n _ hown ad m c (l'.map (Value.int .u8))
      (by simpa using hs.len) hs.news (oneCell_u8 _) (by unfold maxLen; omega) (by omega) hbase
    exact ⟨v', w', hr, by simpa using ho, hg⟩

/-- append(v, s...), v a row of the call's own with room -/
theorem app_spare {w : World} {base : Nat} {a0 : Option Addr} {n cap : Nat} {l : List Int} (hown : w.ownsRow base 5 1 (.slice a0 n cap) n (l.map (Value.int .u8)))
    {a : Option Addr} {m c : Nat} {l' : List Int} (hs : BS w a m c l') (hb : n + m ≤ cap) :
    ∃ w', (Builtin.append_ #[27, 27] 27 #[.slice a0 n cap, .slice a m c]).run Try.prog w = .ok (.slice a0 (n + m) cap) w' ∧
      w'.ownsRow base 5 1 (.slice a0 (n + m) cap) (n + m) ((l ++ l').map (Value.int .u8)) ∧ w.grownBy w' (Value.slice a0 n cap).ownBlock := by
  obtain ⟨i0, hi, hz0, hz1, hz2⟩ := info_parts Try.info_u8
  cases a with
  | none =>
    have hc := hs.none_ rfl
    subst hc
    obtain rfl : m = 0 := by have := hs.le; omega
    obtain rfl : l' = [] := List.eq_nil_of_length_eq_zero hs.len
    exact ⟨w, run_append_owned_none w base 27 _ 5 i0 1 Try.underlying27 hi _ n _ hown, by simpa using hown, World.grownBy.refl w _⟩
  | some ad =>
    have hl : (l'.map (Value.int .u8)).length = m * 1 := by simpa using hs.len
    rcases hown.2 with ⟨hv, hn⟩ | ⟨g, cap', cur, hv, _⟩
    · simp at hv
      obtain ⟨rfl, rfl, rfl⟩ := hv
      obtain rfl : m = 0 := by omega
      obtain rfl : l' = [] := List.eq_nil_of_length_eq_zero hs.len
      refine ⟨w, ?_, by simpa using hown, World.grownBy.refl w _⟩
      have hf := run_firstCells_some (P := Try.prog) w i0.size 0 ad 0 c [] (by simp) (by simp)
      simp [Builtin.append_, run_underlying Try.underlying27, sizeOf, typeInfo, hi, Builtin.lenOf, hf]
    · simp at hv
      obtain ⟨rfl, rfl⟩ := hv
      obtain ⟨w', hr, ho, hg⟩ := run_append_own_spare (P := Try.prog) w base 27 27 5 i0 1 Try.underlying27 hi hz1 g n cap _ hown ad m c (l'.map (Value.int .u8)) hl hs.news (oneCell_u8 _) hb
      exact ⟨w', hr, by simpa using ho, hg⟩
end Go.Proofs.Ytmpmaljkmfgagaa
