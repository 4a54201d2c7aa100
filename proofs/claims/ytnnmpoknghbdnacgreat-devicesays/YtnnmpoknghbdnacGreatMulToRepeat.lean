/-
  Texts put into one: Mul, Repeat.
-/
import Derived.Test.YtnnmpoknghbdnacGreatRowToChSt
import Derived.Shelf.Bits.Mul64
import Derived.Lib.MakeNoZero
import Derived.Laws.Externs
import Derived.Laws.CopyOwn
import Derived.IntWalk
set_option maxRecDepth 100000
set_option maxHeartbeats 4000000
namespace Go.Proofs.YtnnmpoknghbdnacGreat
open Go.RowKit Go.Lib
theorem mul64_one (n : Nat) (hn : n ≤ 127) (w : World) :
 Calls Tryz.prog 218 #[.int .u64 1, .int .u64 n] w fun e w' => e = .returned (.tuple #[.int .u64 0, .int .u64 n]) ∧ w = w' := by
 have hlow : bits .and .u64 (n : Int) 4294967295 = n := by rw [Mul64.maskN n (by omega)]; omega
 have hhigh : (n : Int) / 4294967296 = 0 := by omega
 have h1 : bits .and .u64 1 4294967295 = 1 := by decide
 have h0 : bits .and .u64 0 4294967295 = 0 := by decide
 have hw : IntKind.u64.wrap (n : Int) = n := by rw [IntKind.wrap_u64]; omega
 have hw0 : IntKind.u64.wrap 0 = 0 := by decide
 go_enter Tryz.func218, Tryz.ntmps218; go_wp2; go_ret2; exact ⟨rfl, rfl⟩
theorem mul_one (n : Nat) (hn : n ≤ 127) (w : World) :
 Calls Tryz.prog 209 #[.int .u64 1, .int .u64 n] w fun e w' => e = .returned (.tuple #[.int .u64 0, .int .u64 n]) ∧ w = w' := by
 go_enter Tryz.func209, Tryz.ntmps209; go_wp2_with fail; refine (mul64_one n hn _).mono ?_; rintro e w' ⟨rfl, rfl⟩; go_wp2_with fail; go_ret2; exact ⟨rfl, rfl⟩
theorem makeNoZero_run (n : Nat) (hn : n ≤ 281474976710656) (w : World) : ∃ cs : Array Value, n ≤ cs.size ∧
 (callFunc 210 #[.int .i64 (n : Int)]).run Tryz.prog w = .ok (.value (.slice (some ⟨w.heap.size, 0, none⟩) n cs.size)) ((w.alloc (.cells cs 5)).drewN 2) := by
 obtain ⟨cs, hrunM, hle, _⟩ := Lib.run_makeNoZero (P := Tryz.prog) w #[3] 22 5 U22 n hn; refine ⟨cs, hle, ?_⟩; rw [run_callFunc_extern Tryz.func210 (by kernel_rfl) (by kernel_rfl) (by kernel_rfl) (e := Extern.BytealgMakeNoZero.makeNoZero #[3] #[22]) (by kernel_rfl), hrunM]
 rfl
end Go.Proofs.YtnnmpoknghbdnacGreat
namespace Go.Proofs.YtnnmpoknghbdnacGreat
open Go.RowKit Go.Lib
def Filled (cur : List Value) (C k : Nat) (x : Int) : Prop := cur.length = C ∧ ∀ j, j < k → cur[j]? = some (.int .u8 x)
theorem Filled.more {cur : List Value} {C k m : Nat} {x : Int} (h : Filled cur C k x) (hm : k + m ≤ C) : Filled (splice cur k (List.replicate m (.int .u8 x))) C (k + m) x := by
 obtain ⟨h1, h2⟩ := h; refine ⟨by rw [length_splice _ _ _ (by simp; omega)]; exact h1, fun j hj => ?_⟩; unfold splice; rcases Nat.lt_or_ge j k with hlt | hge
 · rw [List.getElem?_append_left (by simp; omega), List.getElem?_take_of_lt hlt]
   exact h2 j hlt
 · rw [List.getElem?_append_right (by simp; omega), List.getElem?_append_left (by simp; omega), List.getElem?_replicate, if_pos (by simp; omega)]
theorem Filled.bs {cur : List Value} {C n g : Nat} {x : Int} {w : World} (h : Filled cur C n x) (hg : w.heap[g]? = some (.cells cur.toArray 5 (0, 0))) (hn : n ≤ 127) (hx : 0 ≤ x ∧ x ≤ 255) : BS w (some ⟨g, 0, none⟩) n n (List.replicate n x) := by
 refine ⟨by simp, Nat.le_refl _, by omega, fun y hy => by rw [List.mem_replicate] at hy; rw [hy.2]; exact hx, fun _ => ⟨g, 0, rfl, fun i hi => ?_⟩, fun h => by cases h⟩; rw [Nat.zero_add]; simp only [World.cell?, hg]; have := h.2 i hi
 simpa [List.getElem?_replicate, hi] using this
theorem size_u8 : (Tryz.prog.info? 5).map (·.size) = some 1 := by kernel_rfl
theorem repeat_one (a : Option Addr) (c : Nat) (x : Int) (n : Nat) (w : World) (hr : BS w a 1 c [x]) (h1 : 1 ≤ n) (hn : n ≤ 127) :
 Calls Tryz.prog 183 #[.slice a 1 c, .int .i64 n] w (GivesS w (List.replicate n x)) := by
 obtain ⟨b, off, rfl, hc⟩ := hr.cells (by omega); have hx := hr.bytes x (by simp); have hc0 := hc 0 (by omega); simp only [Nat.add_zero, List.getElem?_cons_zero, Option.getD_some] at hc0; clear hr hc; obtain ⟨cs, hcs, hcall⟩ := makeNoZero_run n (by omega) w; have HF0 : Hid (Filled cs.toList cs.toList.length 0 x) := ⟨rfl, fun j hj => absurd hj (by omega)⟩; have hz : ((n : Int) == 0) = false := by simp; omega
 have hneg : ¬ (n : Int) < 0 := by omega
 have hi0 : (0 : Int) ≤ (n : Int) := by omega
 have hi1 : (n : Int) ≤ (cs.size : Int) := by omega
 go_enter Tryz.func183, Tryz.ntmps183; have hb1 : Below w.heap.size w ((w.alloc (.cells cs 5)).drewN 2) := below_drewN ((Below.refl _ _).alloc (Nat.le_refl _) _) 2
 have hg1 : ((w.alloc (.cells cs 5)).drewN 2).heap[w.heap.size]? = some (.cells cs.toList.toArray 5 (0, 0)) := by
  rw [World.heap_drewN, hpA, if_pos rfl, Array.toArray_toList]
 have hc1 := cell_later hb1 hc0; have HG1 := LH hg1; have HB1 := LH hb1; clear hg1 hb1
 go_wp2_with (first
  | (go_at_call 209; refine (mul_one n hn _).mono ?_; rintro e w' ⟨rfl, rfl⟩)
  | (with_reducible refine wpList_copy_splice rfl (.tmp 58) (.tmp 59) 22 22 rfl 5 U22 size_u8 _ _ _ _ _ _ rfl rfl w.heap.size 0 cs.toList 5 HG1.out [.int .u8 x] ?h1 ?h2 ?h3 ?h4 w.heap.size w HB1.out (Nat.le_refl _) ?h5))
 case h1 => show 1 = min 1 n; omega
 case h2 =>
  intro j v hj
  cases j with
  | zero =>
    obtain rfl : Value.int .u8 x = v := by simpa using hj
    exact hc1
  | succ j => simp at hj
 case h3 => simp; omega
 case h4 => intro v hv; rw [List.mem_singleton] at hv; subst hv; rfl
 case h5 =>
  intro w2 HG2 hB2; have HF2 : Hid (Filled (splice cs.toList 0 [Value.int .u8 x]) cs.toList.length 1 x) := Filled.more (m := 1) HF0.out (by simp; omega); have hC : n ≤ cs.toList.length := by simpa using hcs
  generalize splice cs.toList 0 [Value.int .u8 x] = cur2 at HG2 HF2; generalize cs.toList.length = C at HF2 hC; clear HG1 HB1 hcall HF0 hc1 hi1 hcs; go_wp2_with fail; go_loopw [10] (fun bp wr => ∃ (k : Nat) (cur : List Value), 1 ≤ k ∧ k ≤ n ∧ bp = .int .i64 k ∧ Hid (Filled cur C k x) ∧ Hid (wr.heap[w.heap.size]? = some (.cells cur.toArray 5 (0, 0))) ∧ Below w.heap.size w wr) (fun bp _ => n - (intOf bp).toNat)
  case atStart => exact ⟨1, cur2, by omega, by omega, rfl, HF2, HG2, hB2⟩
  case round =>
   obtain ⟨k, cur, hk1, hk, rfl, HF, HG, hB⟩ := hrel; by_cases hlt : k < n
   · go_wp2_with fail
     have hm : (List.replicate (min k (n - k)) (Value.int .u8 x)).length = Nat.min k (n - k) := List.length_replicate
     have hsrc : ∀ j v, (List.replicate (min k (n - k)) (Value.int .u8 x))[j]? = some v → wr.cell? ((⟨w.heap.size, 0, none⟩ : Addr).add j) = some v := by
      intro j v hj; rw [List.getElem?_replicate] at hj; split at hj
      · obtain rfl : Value.int .u8 x = v := by simpa using hj
        have e : ((⟨w.heap.size, 0, none⟩ : Addr).add j) = ⟨w.heap.size, j, none⟩ := by
         by_cases e : j = 0
         · subst e; simp [Addr.add]
         · simp [Addr.add, e]
        rw [e]; simp only [World.cell?, HG.out]; have := HF.out.2 j (by omega)
        simpa using this
      · cases hj
     have hone : ∀ v ∈ List.replicate (min k (n - k)) (Value.int .u8 x), v.oneCell' = true := by
      intro v hv; rw [List.mem_replicate] at hv; rw [hv.2]; rfl
     have hfit : k + (List.replicate (min k (n - k)) (Value.int .u8 x)).length ≤ cur.length := by rw [List.length_replicate, HF.out.1]; omega
     have HM := LH hm; have HS := LH hsrc; have HO := LH hone; have HT := LH hfit; have HFn := LH (HF.out.more (m := min k (n - k)) (by omega)); have hne : ¬ n = k := by omega
     clear hm hsrc hone hfit; generalize hcc : List.replicate (min k (n - k)) (Value.int .u8 x) = cc at HM HS HO HT HFn; clear hcc
     have hwr : IntKind.i64.wrap ((k : Int) + (cc.length : Int)) = ((k + min k (n - k) : Nat) : Int) := by
      have : cc.length = min k (n - k) := HM.out; rw [IntWalk.i64_in _ (by omega)]; omega
     go_region_law ((refine step_copy_splice rfl (.tmp 70) (.tmp 73) 22 22 rfl 5 U22 size_u8 (some ⟨w.heap.size, k, none⟩) (some ⟨w.heap.size, 0, none⟩) (n - k) (n - k) k n (by simp [Act.eval, Act.put]) (by simp [Act.eval, Act.put]) w.heap.size k cur 5 HG.out cc HM.out (fun _ => ⟨rfl, _, rfl, HS.out⟩) HT.out HO.out w.heap.size w hB.drew (Nat.le_refl _) ?_; intro w4 HG4 hb4)); go_simp; go_roundw
     case rel =>
      (repeat apply Exists.intro)
      exact ⟨⟨k + min k (n - k), _, by omega, by omega, rfl, HFn, HG4, hb4⟩, rfl⟩
     case measure => simp [intOf]; omega
   · go_wp2_with fail
     go_ret; obtain rfl : n = k := by omega
     exact ⟨_, _, _, rfl, HF.out.bs HG.out hn hx, hB⟩
end Go.Proofs.YtnnmpoknghbdnacGreat
