/- The contract of spec.SingleAt. -/
import Derived.Test.YtfbgdkfnidghcakGreatDoorScu
import Derived.Test.YtfbgdkfnidghcakGreatDoorSph
namespace Go.Proofs.YtfbgdkfnidghcakGreatDoor
open Go.ChangeShapes Go.WideShapes Go.ChangeAt Go.RowKit Go.Deep
theorem infoB : (Tryz.prog.info? 5).map (fun i => (i.zero, i.size, i.bytes)) = some (some (.int .u8 0), 1, 1) := by kernel_rfl
theorem own_slice {w : World} {lo e sz : Nat} {v : Value} {n : Nat} {xs : List Value} (h : w.ownsRow lo e sz v (n + 1) xs) : ∃ g c, v = .slice (some ⟨g, 0, none⟩) (n + 1) c := by
  rcases h.2 with ⟨_, e⟩ | ⟨g, cap, cur, e, _⟩
  · omega
  · exact ⟨g, cap, e⟩
theorem own_cap {w : World} {lo e sz g c : Nat} {n : Nat} {xs : List Value} (h : w.ownsRow lo e sz (.slice (some ⟨g, 0, none⟩) n c) n xs) : n ≤ c := by
  rcases h.2 with ⟨e, _⟩ | ⟨g', cap, cur, e, _, _, hn, _⟩
  · cases e
  · injection e with _ _ e; rw [e]; exact hn
theorem sg_end {s : ByteArray} {f i : Nat} {l : List Pc} {cur : ByteArray} (h : s.size ≤ i) : sgGo s f i l cur = (ByteArray.empty, s.size, 3) := by
  cases f with
  | zero => rfl
  | succ f => rw [sgGo, if_pos h]
theorem sg_two {s : ByteArray} {f i : Nat} {l : List Pc} {cur : ByteArray} (_ : i < s.size) (h : bt s i = 39) (h1 : i + 1 < s.size) (h2 : bt s (i + 1) = 39) : sgGo s (f + 1) i l cur = sgGo s f (i + 2) l (cur ++ b1 39) := by
  rw [sgGo, if_neg (by omega), if_pos h, if_pos ⟨h1, h2⟩]
theorem sg_close {s : ByteArray} {f i : Nat} {l : List Pc} {cur : ByteArray} (hi : i < s.size) (h : bt s i = 39) (h1 : ¬ (i + 1 < s.size ∧ bt s (i + 1) = 39)) : sgGo s (f + 1) i l cur = (foldFlow (l ++ [(cur, false)]), i + 1, 0) := by
  rw [sgGo, if_neg (by omega), if_pos h, if_neg h1]
theorem sg_mark {s : ByteArray} {f i : Nat} {l : List Pc} {cur : ByteArray} (hi : i < s.size) (h : bt s i = 10) (h1 : 0 < markN s (i + 1)) : sgGo s (f + 1) i l cur = (ByteArray.empty, i + 1, 4) := by
  rw [sgGo, if_neg (by omega), if_neg (by omega), if_pos h, if_pos h1]
theorem sg_line {s : ByteArray} {f i : Nat} {l : List Pc} {cur : ByteArray} (hi : i < s.size) (h : bt s i = 10) (h1 : ¬ 0 < markN s (i + 1)) : sgGo s (f + 1) i l cur = sgGo s f (wh s (i + 1)) (l ++ [(cutB cur 0, false)]) ByteArray.empty := by
  rw [sgGo, if_neg (by omega), if_neg (by omega), if_pos h, if_neg h1]
theorem sg_byte {s : ByteArray} {f i : Nat} {l : List Pc} {cur : ByteArray} (hi : i < s.size) (h : bt s i ≠ 39) (h1 : bt s i ≠ 10) : sgGo s (f + 1) i l cur = sgGo s f (i + 1) l (cur ++ b1 (bt s i)) := by
  rw [sgGo, if_neg (by omega), if_neg h, if_neg h1]
theorem totC_snoc (l : List Pc) (x : ByteArray) (b : Bool) : totC (l ++ [(x, b)]) = totC l + x.size := by rw [totC_app]; rfl
theorem strCells_b1 (x : Nat) (h : x < 256) : Lib.strCells (b1 x) = [.int .u8 (x : Int)] := by
  have : (x.toUInt8).toNat = x := by show (UInt8.ofNat x).toNat = x; rw [UInt8.toNat_ofNat']; omega
  unfold Lib.strCells b1
  simp [this]
theorem b1_size (x : Nat) : (b1 x).size = 1 := rfl
end Go.Proofs.YtfbgdkfnidghcakGreatDoor
