/- The draws' cursor: what it is, what may change, and the contracts of l01Byte, l01Below and l01Of. -/
import Derived.Test.YtmbbmibkjnlkkaaDoorProg
import Derived.WalkKit
import Derived.ProofKit
import Derived.WalkLawsBesides
import Derived.WalkSpells
import Derived.Below
import Derived.Deep.QuietTactic
import Derived.BigQuiet
namespace Go.Proofs.YtmbbmibkjnlkkaaDoor
open Go.ChangeShapes Go.WideShapes Go.ChangeAt Go.RowKit
theorem and_range (x : Int) (m : Nat) (hm : m < 9223372036854775808) : 0 ≤ bits .and .i64 x (m : Int) ∧ bits .and .i64 x (m : Int) ≤ m := by
  have h : bits .and .i64 x (m : Int) = IntKind.i64.wrap ((BitVec.ofInt 64 x &&& BitVec.ofInt 64 (m : Int)).toNat : Int) := rfl
  have hle : (BitVec.ofInt 64 x &&& BitVec.ofInt 64 (m : Int)).toNat ≤ m := by
    rw [BitVec.toNat_and]
    have : (BitVec.ofInt 64 (m : Int)).toNat = m := by
      rw [BitVec.toNat_ofInt]; omega
    rw [this]
    exact Nat.and_le_right
  have hw : IntKind.i64.wrap ((BitVec.ofInt 64 x &&& BitVec.ofInt 64 (m : Int)).toNat : Int) = ((BitVec.ofInt 64 x &&& BitVec.ofInt 64 (m : Int)).toNat : Int) := by
    generalize (BitVec.ofInt 64 x &&& BitVec.ofInt 64 (m : Int)).toNat = n at *
    have e : (n : Int) % 2 ^ 64 = n := Int.emod_eq_of_lt (by omega) (by omega)
    simp only [IntKind.wrap, IntKind.bits, IntKind.signed, e]
    rw [if_neg]
    simp
    omega
  rw [h, hw]
  omega
/-- The bytes that a cursor goes over: they lie below B. -/
def Bs (B : Nat) (a : Option Addr) (len : Nat) (w : World) : Prop :=
  len ≤ 1048576 ∧ (0 < len → ∃ b off, a = some ⟨b, off, none⟩ ∧ b < B ∧ ∀ j, j < len → ∃ x : Int, w.cell? ⟨b, off + j, none⟩ = some (.int .u8 x) ∧ 0 ≤ x ∧ x < 256)
theorem Bs.later {B : Nat} {a : Option Addr} {len : Nat} {w w' : World} (h : Bs B a len w) (hb : Below B w w') : Bs B a len w' := by
  refine ⟨h.1, fun hl => ?_⟩
  obtain ⟨b, off, ha, hlt, hc⟩ := h.2 hl
  refine ⟨b, off, ha, hlt, fun j hj => ?_⟩
  obtain ⟨x, hx, h0, h1⟩ := hc j hj
  exact ⟨x, (hb.cell (by exact hlt)).trans hx, h0, h1⟩
/-- A cursor at P. -/
def Cu (P : Nat) (w : World) : Prop :=
  ∃ (a : Option Addr) (len cap : Nat) (i h : Int), w.heap[P]? = some (.cells #[.slice a len cap, .int .i64 i, .int .i64 h] 67 (0, 0)) ∧ 0 ≤ i ∧ i ≤ len ∧ Bs P a len w
/-- Nothing but the cursor's own block has changed. -/
def Fr (P : Nat) (w w' : World) : Prop := Below P w w' ∧ ∀ b, P < b → b < w.heap.size → w'.heap[b]? = w.heap[b]?
theorem Fr.refl (P : Nat) (w : World) : Fr P w w := ⟨Below.refl _ _, fun _ _ _ => rfl⟩
theorem Fr.trans {P : Nat} {a b c : World} (h : Fr P a b) (k : Fr P b c) : Fr P a c :=
  ⟨h.1.trans k.1, fun x h1 h2 => (k.2 x h1 (Nat.lt_of_lt_of_le h2 h.1.size)).trans (h.2 x h1 h2)⟩
theorem Fr.alloc {P : Nat} {a w : World} (h : Fr P a w) (hP : P < w.heap.size) (o : Obj) : Fr P a (w.alloc o) :=
  ⟨h.1.alloc (Nat.le_of_lt hP) o, fun x h1 h2 => (Below.heap_alloc w o x (Nat.lt_of_lt_of_le h2 h.1.size)).trans (h.2 x h1 h2)⟩
theorem Fr.drewN {P : Nat} {a w : World} (h : Fr P a w) (n : Nat) : Fr P a (w.drewN n) := by
  induction n with
  | zero => exact h
  | succ n ih => exact ⟨ih.1.drew, ih.2⟩
theorem Fr.set {P : Nat} {a w : World} (h : Fr P a w) (o : Nat) (v : Value) : Fr P a (w.setCell ⟨P, o, none⟩ v) :=
  ⟨h.1.setCell (Nat.le_refl _) v, fun x h1 h2 => (Below.heap_setCell w ⟨P, o, none⟩ v x (by simp; omega)).trans (h.2 x h1 h2)⟩
theorem Fr.block {P : Nat} {w w' : World} (h : Fr P w w') (b : Nat) (hb : b < w.heap.size) (hne : b ≠ P) : w'.heap[b]? = w.heap[b]? := by
  rcases Nat.lt_or_gt_of_ne hne with h' | h'
  · exact h.1.block b h'
  · exact h.2 b h' hb
theorem Fr.below {P B : Nat} {w w' : World} (h : Fr P w w') (hB : B ≤ P) : Below B w w' := h.1.mono hB
theorem Cu.lt {P : Nat} {w : World} (h : Cu P w) : P < w.heap.size := by
  obtain ⟨_, _, _, _, _, hc, _⟩ := h
  exact (Array.getElem?_eq_some_iff.1 hc).1
theorem Cu.alloc {P : Nat} {w : World} (h : Cu P w) (o : Obj) : Cu P (w.alloc o) := by
  have hlt := h.lt
  obtain ⟨a, len, cap, i, hh, hc, h0, h1, hb⟩ := h
  exact ⟨a, len, cap, i, hh, (Below.heap_alloc w o P hlt).trans hc, h0, h1, hb.later ((Below.refl _ _).alloc (Nat.le_of_lt hlt) o)⟩
/-- Behind a call: the cursor is one, nothing else has changed. -/
def St (P : Nat) (w w' : World) : Prop := Cu P w' ∧ Fr P w w'
theorem St.trans {P : Nat} {a b c : World} (h : St P a b) (k : St P b c) : St P a c := ⟨k.1, h.2.trans k.2⟩
theorem St.alloc {P : Nat} {a b : World} (h : St P a b) (o : Obj) : St P a (b.alloc o) := ⟨h.1.alloc o, h.2.alloc h.1.lt o⟩
theorem Cu.st {P : Nat} {w : World} (h : Cu P w) : St P w w := ⟨h, Fr.refl _ _⟩
def NumPost (n : Int) (P : Nat) (w : World) (e : Ending) (w' : World) : Prop := ∃ v : Int, e = .returned (.int .i64 v) ∧ 0 ≤ v ∧ v < n ∧ St P w w'
def StrPost (K : Nat) (P : Nat) (w : World) (e : Ending) (w' : World) : Prop := ∃ t : ByteArray, e = .returned (.string t) ∧ t.size ≤ K ∧ St P w w'
theorem set2 {w : World} {P : Nat} {x0 x1 x2 : Value} {T : TypeId} (h : w.heap[P]? = some (.cells #[x0, x1, x2] T (0, 0))) (v : Value) : (w.setCell ⟨P, 2, none⟩ v).heap[P]? = some (.cells #[x0, x1, v] T (0, 0)) := by
  simp [World.setCell, Array.getElem?_modify, h]
theorem set1 {w : World} {P : Nat} {x0 x1 x2 : Value} {T : TypeId} (h : w.heap[P]? = some (.cells #[x0, x1, x2] T (0, 0))) (v : Value) : (w.setCell ⟨P, 1, none⟩ v).heap[P]? = some (.cells #[x0, v, x2] T (0, 0)) := by
  simp [World.setCell, Array.getElem?_modify, h]
theorem cells3 {w : World} {P : Nat} {x0 x1 x2 : Value} {T : TypeId} (h : w.heap[P]? = some (.cells #[x0, x1, x2] T (0, 0))) :
    w.cell? ⟨P, 0, none⟩ = some x0 ∧ w.cell? ⟨P, 1, none⟩ = some x1 ∧ w.cell? ⟨P, 2, none⟩ = some x2 ∧ w.frozen? ⟨P, 1, none⟩ = false ∧ w.frozen? ⟨P, 2, none⟩ = false := by
  refine ⟨?_, ?_, ?_, ?_, ?_⟩ <;> simp [World.cell?, World.frozen?, h]
set_option maxHeartbeats 2000000 in
theorem byte_any (P : Nat) (w : World) (hC : Cu P w) :
    Calls Tryd.prog 57 #[.pointer (some ⟨P, 0, none⟩)] w fun e w' => NumPost 256 P w e w' := by
  obtain ⟨a, len, cap, i, h, hc, hi0, hi1, hb⟩ := hC
  obtain ⟨c0, c1, c2, f1, f2⟩ := cells3 hc
  go_enter Tryd.func57, Tryd.ntmps57
  go_wp2_with fail
  generalize hv : wrap64 (wrap64 (h * 6364136223846793005) + 1442695040888963407) = h'
  clear hv
  have hc' := set2 hc (.int .i64 h')
  have hF : Fr P w (w.setCell ⟨P, 2, none⟩ (.int .i64 h')) := (Fr.refl P w).set 2 _
  have hb' : Bs P a len (w.setCell ⟨P, 2, none⟩ (.int .i64 h')) := hb.later hF.1
  generalize hw1 : w.setCell ⟨P, 2, none⟩ (.int .i64 h') = w1 at *
  clear hw1 hc c0 c1 c2 f1 f2 hb
  obtain ⟨c0, c1, c2, f1, f2⟩ := cells3 hc'
  go_quiet (fail)
  go_wp2_with fail
  have hx := and_range (bits .xor .i64 (h' / 8589934592) (h' / 35184372088832)) 255 (by omega)
  generalize hxe : bits .and .i64 (bits .xor .i64 (h' / 8589934592) (h' / 35184372088832)) 255 = x at *
  obtain ⟨hx0, hx1⟩ : 0 ≤ x ∧ x ≤ 255 := hx
  clear hxe
  by_cases hlt : i < (len : Int)
  · obtain ⟨b, off, rfl, hbP, hcell⟩ := hb'.2 (by omega)
    obtain ⟨k, rfl⟩ : ∃ k : Nat, i = (k : Int) := ⟨i.toNat, by omega⟩
    obtain ⟨y, hy, hy0, hy1⟩ := hcell k (by omega)
    have hl := hb'.1
    clear hcell
    go_quiet (fail)
    go_wp2_with fail
    go_quiet (fail)
    go_wp2_with fail
    go_ret
    have hy2 : 0 ≤ bits .and .i64 (x + y) 255 ∧ bits .and .i64 (x + y) 255 ≤ 255 := and_range (x + y) 255 (by omega)
    refine ⟨bits .and .i64 (x + y) 255, rfl, hy2.1, by have := hy2.2; omega, ⟨_, len, cap, (k : Int) + 1, h', set1 hc' _, by omega, by omega, ?_⟩, (hF.drewN _).set 1 _⟩
    exact hb'.later ((((Fr.refl P w1).drewN _).set 1 _).1)
  · have hge : (len : Int) ≤ i := by omega
    clear hlt
    go_quiet (fail)
    go_wp2_with fail
    go_ret
    exact ⟨x, rfl, hx0, by omega, ⟨_, len, cap, i, h', hc', hi0, hi1, hb'⟩, (hF.drewN _).drewN _⟩
theorem rem_range (x n : Int) (hn : 0 < n) : 0 ≤ x % n ∧ x % n < n := by
  exact ⟨Int.emod_nonneg _ (by omega), Int.emod_lt_of_pos _ hn⟩
set_option maxHeartbeats 2000000 in
theorem below_any (P : Nat) (n : Int) (w : World) (hC : Cu P w) (hn : 0 < n) (hn2 : n < 4611686018427387904) :
    Calls Tryd.prog 42 #[.pointer (some ⟨P, 0, none⟩), .int .i64 n] w fun e w' => NumPost n P w e w' := by
  by_cases h : n ≤ 256
  · go_enter Tryd.func42, Tryd.ntmps42
    go_wp2_with fail
    refine (byte_any P w hC).mono ?_
    rintro e w1 ⟨v, rfl, hv0, hv1, hS⟩
    have hr := rem_range v n hn
    go_wp2_with fail
    go_ret
    exact ⟨v % n, rfl, hr.1, hr.2, hS⟩
  · go_enter Tryd.func42, Tryd.ntmps42
    go_wp2_with fail
    refine (byte_any P w hC).mono ?_
    rintro e w1 ⟨v, rfl, hv0, hv1, hS⟩
    go_wp2_with fail
    refine (byte_any P w1 hS.1).mono ?_
    rintro e w2 ⟨v2, rfl, hv20, hv21, hS2⟩
    go_wp2_with fail
    refine (byte_any P w2 hS2.1).mono ?_
    rintro e w3 ⟨v3, rfl, hv30, hv31, hS3⟩
    go_wp2_with fail
    refine (byte_any P w3 hS3.1).mono ?_
    rintro e w4 ⟨v4, rfl, hv40, hv41, hS4⟩
    have hr := rem_range (v * 16777216 + v2 * 65536 + v3 * 256 + v4) n hn
    go_wp2_with fail
    go_ret
    exact ⟨_, rfl, hr.1, hr.2, ((hS.trans hS2).trans hS3).trans hS4⟩
/-- A list of texts, each of at most 100 bytes. -/
def txt : Value → Bool
  | .string t => decide (t.size ≤ 100)
  | _ => false
theorem of_any (P b n : Nat) (cs : Array Value) (T : TypeId) (w : World) (hC : Cu P w) (hb : w.heap[b]? = some (.cells cs T (0, 0))) (hbP : b ≠ P) (hn : cs.size = n) (h0 : 0 < n) (h1 : n ≤ 100) (ht : cs.all txt = true) :
    Calls Tryd.prog 58 #[.pointer (some ⟨P, 0, none⟩), .slice (some ⟨b, 0, none⟩) n n] w fun e w' => StrPost 100 P w e w' := by
  subst hn
  have hlt : b < w.heap.size := (Array.getElem?_eq_some_iff.1 hb).1
  go_enter Tryd.func58, Tryd.ntmps58
  go_wp2_with fail
  refine (below_any P _ w hC (by omega) (by omega)).mono ?_
  rintro e w1 ⟨v, rfl, hv0, hv1, hS⟩
  obtain ⟨k, rfl⟩ : ∃ k : Nat, v = (k : Int) := ⟨v.toNat, by omega⟩
  have hb1 : w1.heap[b]? = some (.cells cs T (0, 0)) := (hS.2.block b hlt hbP).trans hb
  have hk : k < cs.size := by omega
  have htk : txt cs[k] = true := by
    rw [Array.all_eq_true] at ht
    exact ht k hk
  obtain ⟨t, ht1, ht2⟩ : ∃ t, cs[k] = .string t ∧ t.size ≤ 100 := by
    cases hv : cs[k] with
    | string t => rw [hv] at htk; exact ⟨t, rfl, by simpa [txt] using htk⟩
    | _ => rw [hv] at htk; simp [txt] at htk
  have hcell : w1.cell? ⟨b, k, none⟩ = some (.string t) := by
    simp [World.cell?, hb1, hk, ht1]
  clear hb hb1 ht htk ht1
  go_wp2_with fail
  go_ret
  exact ⟨t, rfl, ht2, hS⟩
end Go.Proofs.YtmbbmibkjnlkkaaDoor
