/- A list of texts that came in: how large it is, a copy of it in new memory, whether two are alike. -/
import Derived.Test.YtonhgejfbieanalSls
import Derived.Test.YtonhgejfbieanalProg
import Derived.WalkLawsBesides
import Derived.WalkSpells
import Derived.WalkMore
import Derived.Deep.OwnRows
import Derived.Laws.MakeOwn
import Derived.Deep.RegionWith
import Derived.Deep.QuietTactic
import Derived.BigQuiet
import Derived.Deep.Light
namespace Go.Proofs.Ytonhgejfbieanal
open Go.ChangeShapes Go.WideShapes Go.ChangeAt Go.RowKit Go.Deep
def SzS (ss : List ByteArray) (w : World) (e : Ending) (w' : World) : Prop :=
  (∃ r : Int, e = .returned (.int .i64 r) ∧ (r = -1 ∨ (0 ≤ r ∧ totS ss + ss.length ≤ 1048576))) ∧ Below w.heap.size w w'
def cellsS (ss : List ByteArray) : List Value := ss.map Value.string
def zS : Value := .string ByteArray.empty
theorem cellsS_step {rs : List ByteArray} {k : Nat} (hk : rs.length = k) (s : ByteArray) (j : Nat) :
    (if j = k then Value.string s else (cellsS rs)[j]?.getD zS) = (cellsS (rs ++ [s]))[j]?.getD zS := by
  unfold cellsS
  rw [List.map_append, List.getElem?_append, List.length_map, hk]
  by_cases h1 : j < k
  · rw [if_neg (by omega), if_pos h1]
  · rw [if_neg h1]
    by_cases h2 : j = k
    · rw [if_pos h2, h2, Nat.sub_self]; rfl
    · rw [if_neg h2, List.getElem?_eq_none (l := List.map Value.string rs) (by rw [List.length_map]; omega), List.getElem?_eq_none (l := List.map Value.string [s]) (by simp only [List.map_cons, List.map_nil, List.length_cons, List.length_nil]; omega)]
theorem infoS : (Try.prog.info? 9).map (fun i => (i.zero, i.size, i.bytes)) = some (some (.string ByteArray.empty), 1, 16) := by kernel_rfl
theorem infoS_parts : ∃ ti, Try.prog.info? 9 = some ti ∧ ti.zero = some (.string ByteArray.empty) ∧ ti.size = 1 ∧ ti.bytes = 16 := by
  have h := infoS
  cases e : Try.prog.info? 9 with
  | none => rw [e] at h; cases h
  | some ti =>
    rw [e] at h
    simp at h
    exact ⟨ti, rfl, h.1, h.2.1, h.2.2⟩
set_option maxHeartbeats 4000000 in
theorem eqSs_ (w : World) (v u : Value) (ss : List ByteArray) (hV : SlS w v ss) (hU : SlS w u ss) (hl : ss.length ≤ 1048576) :
    Calls Try.prog 12 #[v, u] w fun e w' => e = .returned (.bool true) ∧ Below w.heap.size w w' := by
  obtain ⟨a, c, rfl⟩ := hV.sl
  obtain ⟨a', c', rfl⟩ := hU.sl
  have HV : Hid (SlS w (.slice a ss.length c) ss) := hV
  have HU : Hid (SlS w (.slice a' ss.length c') ss) := hU
  clear hV hU
  go_enter Try.func12, Try.ntmps12
  go_wp2_with fail
  go_loopw [5] (fun i wr => ∃ k : Nat, k ≤ ss.length ∧ i = .int .i64 k ∧ Below w.heap.size w wr) (fun i _ => ss.length - (intOf i).toNat)
  case atStart => exact ⟨0, Nat.zero_le _, rfl, Below.refl _ _⟩
  case round =>
    obtain ⟨k, hk, rfl, hb⟩ := hrel
    by_cases hlt : k < ss.length
    · obtain ⟨s, hx⟩ : ∃ h, ss[k]? = some h := ⟨_, List.getElem?_eq_getElem hlt⟩
      obtain ⟨b, off, rfl, c1⟩ := HV.out.cells hb hx
      obtain ⟨b', off', rfl, c3⟩ := HU.out.cells hb hx
      have hlt' : (k : Int) < (ss.length : Int) := by omega
      have hss : (s.toList != s.toList) = false := by simp
      clear hx
      go_wp2_with fail
      go_quiet (fail)
      go_wp2_with fail
      go_roundw
      case rel => exact ⟨k + 1, hlt, by go_num, hb.trans ((below_dq _ _).mono hb.size)⟩
      case measure => simp [intOf]; omega
    · go_wp2_with fail
      go_ret
      exact ⟨rfl, hb⟩
end Go.Proofs.Ytonhgejfbieanal
