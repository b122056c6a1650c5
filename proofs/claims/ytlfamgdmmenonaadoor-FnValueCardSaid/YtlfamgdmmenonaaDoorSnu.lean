/- The contract of spec.NumText. -/
import Derived.Test.YtlfamgdmmenonaaDoorProg
import Derived.WalkKit
import Derived.ProofKit
import Derived.WalkLawsBesides
import Derived.WalkSpells
import Derived.Below
import Derived.Deep.RegionWith
import Derived.Lib.ItoaNum
import Derived.Lib.LaidTab
import Derived.Lib.SmallJoins
namespace Go.Proofs.YtlfamgdmmenonaaDoor
open Go.ChangeShapes Go.WideShapes Go.ChangeAt Go.RowKit
theorem conv1 (w : World) (a : Int) : (convert 22 9 (.slice (some ⟨w.heap.size, 0, none⟩) 1 1)).run Tryd.prog (w.alloc (.cells #[.int .u8 a] 5)) = .ok (.string (strOfNums [a])) (w.alloc (.cells #[.int .u8 a] 5)) :=
  run_convert_bytes_arg _ 22 5 Tryd.underlying22 Tryd.underlying5 _ 0 1 1 [a] rfl (fun i hi => by
    match i, hi with
    | 0, _ => simp) 9 Tryd.underlying9
theorem ret_str {a b : ByteArray} (h : a = b) : Ending.returned (.string a) = .returned (.string b) := by rw [h]
theorem dec_one (n : Int) (h0 : 0 ≤ n) (h1 : n < 10) : strOfNums [48 + n] = ⟨(Lib.decDigits n.toNat).toArray⟩ := by
  rw [Lib.decDigits_one (by omega)]
  have : (48 + n).toNat = 48 + n.toNat := by omega
  simp [strOfNums, this]
theorem conv1d (w : World) (a : Int) : (convert 22 9 (.slice (some ⟨w.heap.size, 0, none⟩) 1 1)).run Tryd.prog (w.alloc (.cells #[.int .u8 a] 5)).drew = .ok (.string (strOfNums [a])) (w.alloc (.cells #[.int .u8 a] 5)).drew :=
  conv1 w.drew a
theorem b_after {w w1 : World} (hb : Below w.drew.heap.size w.drew w1) (o : Obj) : Below w.heap.size w (w1.alloc o) :=
  (((Below.refl _ w).drew).trans hb).alloc hb.size o
theorem b_before {w w1 : World} {o : Obj} (hb : Below ((w.alloc o).drew).heap.size (w.alloc o).drew w1) : Below w.heap.size w w1 :=
  (((Below.refl _ w).alloc (Nat.le_refl _) _).drew).trans (hb.mono (by simp))
theorem conv_later {w w1 : World} {a : Int} (hb : Below ((w.alloc (.cells #[.int .u8 a] 5)).drew).heap.size (w.alloc (.cells #[.int .u8 a] 5)).drew w1) :
    (convert 22 9 (.slice (some ⟨w.heap.size, 0, none⟩) 1 1)).run Tryd.prog w1 = .ok (.string (strOfNums [a])) w1 :=
  run_convert_bytes_arg _ 22 5 Tryd.underlying22 Tryd.underlying5 _ 0 1 1 [a] rfl (fun i hi => by
    match i, hi with
    | 0, _ =>
      rw [hb.cell (by simp)]
      simp) 9 Tryd.underlying9
theorem wq (n : Int) (h0 : 0 ≤ n) (h1 : n ≤ 4294967295) : IntKind.i64.wrap (n.tdiv 10) = n / 10 := by
  rw [Int.tdiv_eq_ediv_of_nonneg h0]
  exact wrap_small _ (by omega) (by omega)
theorem dec_len' : ∀ (k u : Nat), u < 10 ^ (k + 1) → (Lib.decDigits u).length ≤ k + 1
  | 0, u, h => by rw [Lib.decDigits_one (by omega)]; simp
  | k + 1, u, h => by
    by_cases h' : u < 10
    · rw [Lib.decDigits_one h']; simp
    · rw [Lib.decDigits, dif_neg h', List.length_append]
      have := dec_len' k (u / 10) (by rw [Nat.pow_succ] at h; omega)
      simp; omega
theorem dec_len (u : Nat) (h : u ≤ 4294967295) : (Lib.decDigits u).length ≤ 10 := dec_len' 9 u (by omega)
theorem wd (n : Int) (h0 : 0 ≤ n) : IntKind.u8.wrap (IntKind.i64.wrap (48 + n.tmod 10)) = 48 + n % 10 := by
  rw [Int.tmod_eq_emod_of_nonneg h0, wrap_small _ (by omega) (by omega)]
  unfold IntKind.wrap
  simp [IntKind.bits, IntKind.signed]
  omega
theorem dec_more (n : Int) (h0 : 0 ≤ n) (h : ¬ n < 10) : (⟨(Lib.decDigits (n / 10).toNat).toArray⟩ : ByteArray) ++ strOfNums [IntKind.u8.wrap (IntKind.i64.wrap (48 + n.tmod 10))] = ⟨(Lib.decDigits n.toNat).toArray⟩ := by
  rw [wd n h0, Lib.decDigits.eq_1 n.toNat, dif_neg (by omega)]
  have e1 : (n / 10).toNat = n.toNat / 10 := by omega
  have e2 : (48 + n % 10).toNat = 48 + n.toNat % 10 := by omega
  rw [e1]
  simp only [strOfNums, List.map_cons, List.map_nil, e2, ByteArray.mk_append_mk]
/-- What NumText answers. -/
def nt (n : Int) : ByteArray := if n < 0 ∨ 4294967295 < n then ⟨#[]⟩ else ⟨(Lib.decDigits n.toNat).toArray⟩
theorem nt_bad (n : Int) (h : n < 0 ∨ 4294967295 < n) : nt n = ⟨#[]⟩ := by unfold nt; rw [if_pos h]
theorem nt_good (n : Int) (h0 : 0 ≤ n) (h1 : n ≤ 4294967295) : nt n = ⟨(Lib.decDigits n.toNat).toArray⟩ := by unfold nt; rw [if_neg (by omega)]
end Go.Proofs.YtlfamgdmmenonaaDoor
