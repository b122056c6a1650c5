/- impl's book of handles: a map by their names, the first one of a name counts. -/
import Derived.Test.YtopmboioojedbaiPr
import Derived.Test.YtopmboioojedbaiProg
import Derived.WalkKit
import Derived.ProofKit
import Derived.WalkLawsBesides
import Derived.WalkSpells
import Derived.WalkMore
import Derived.Below
import Derived.Maps.OwnSet
import Derived.Laws.EntriesVeiled
import Derived.Deep.QuietTactic
namespace Go.Proofs.Ytopmboioojedbai
open Go.Maps Go.RowKit
abbrev Hn := ByteArray × ByteArray
def skey (x : ByteArray) : Lit := .string x.data.toList
theorem skey_ne {a b : ByteArray} (h : a ≠ b) : skey a ≠ skey b := by
  intro e
  unfold skey at e
  injection e with e
  exact h (ba_ext e)
theorem skey_lit (x : ByteArray) : WideAt.IsKeyLit (skey x) := trivial
def R0 (v : Value) : Option (DataW Value × List MemPlace) := some (.held v, [])
def hval (x p : ByteArray) : Value := .agg #[.string x, .string p]
/-- What a name stands for. -/
def coreT : ByteArray := ⟨#[116, 97, 103, 58, 121, 97, 109, 108, 46, 111, 114, 103, 44, 50, 48, 48, 50, 58]⟩
def b1 : ByteArray := ⟨#[33]⟩
def b2 : ByteArray := ⟨#[33, 33]⟩
def look : List Hn → ByteArray → Option ByteArray
  | [], x => if b1 = x then some b1 else if b2 = x then some coreT else none
  | h :: t, x => if h.1 = x then some h.2 else look t x
structure BookIs (D : DataW Value) (f : ByteArray → Option ByteArray) : Prop where
  isMap : IsMap D
  has : ∀ x, Maps.has D (skey x) = (f x).isSome
  at_ : ∀ x p, f x = some p → ∀ z, D.atKey (skey x) z = .held (hval x p)
theorem BookIs.put {D : DataW Value} {f : ByteArray → Option ByteArray} (h : BookIs D f) (n p : ByteArray) : BookIs (D.put (skey n) (.held (hval n p))) (fun x => if n = x then some p else f x) := by
  refine ⟨h.isMap.put _ _, fun x => ?_, fun x q hq z => ?_⟩
  · by_cases e : n = x
    · subst e
      rw [has_put_same h.isMap (skey_lit _)]; simp
    · rw [has_put_other (skey_ne (Ne.symm e)), h.has x]; simp [e]
  · by_cases e : n = x
    · subst e
      simp at hq
      subst hq
      exact atKey_put_same h.isMap (skey_lit _) _ _
    · simp [e] at hq
      rw [atKey_put_other (skey_ne (Ne.symm e))]
      exact h.at_ x q hq z
theorem BookIs.start : BookIs ((((.map [] : DataW Value).put (skey b2) (.held (hval b2 coreT))).put (skey b1) (.held (hval b1 b1)))) (look []) := by
  have h0 : BookIs (.map []) (fun _ => none) := ⟨⟨_, rfl⟩, fun x => by simp [Maps.has], fun x p h => by simp at h⟩
  have h2 := (h0.put b2 coreT).put b1 b1
  exact h2
theorem BookIs.step {D : DataW Value} {h : Hn} {t : List Hn} (hb : BookIs D (look t)) : BookIs (D.put (skey h.1) (.held (hval h.1 h.2))) (look (h :: t)) := hb.put h.1 h.2
/-- A list of handles, as it lies. -/
def SlH (w : World) (v : Value) (hs : List Hn) : Prop :=
  (hs = [] ∧ ∃ a c, v = .slice a 0 c) ∨
  (hs ≠ [] ∧ ∃ b off c, v = .slice (some ⟨b, off, none⟩) hs.length c ∧ b < w.heap.size ∧ ∀ i h, hs[i]? = some h → w.cell? ⟨b, off + i * 2, none⟩ = some (.string h.1) ∧ w.cell? ⟨b, off + i * 2 + 1, none⟩ = some (.string h.2))
theorem SlH.stays {w w' : World} {v : Value} {hs : List Hn} (h : SlH w v hs) (hb : Below w.heap.size w w') : SlH w' v hs := by
  rcases h with h | ⟨h, b, off, c, e, hlt, hc⟩
  · exact .inl h
  · exact .inr ⟨h, b, off, c, e, Nat.lt_of_lt_of_le hlt hb.size, fun i p hi => by rw [hb.cell hlt, hb.cell hlt]; exact hc i p hi⟩
theorem SlH.sl {w : World} {v : Value} {hs : List Hn} (h : SlH w v hs) : ∃ a c, v = .slice a hs.length c := by
  rcases h with ⟨rfl, a, c, rfl⟩ | ⟨_, b, off, c, rfl, _⟩
  · exact ⟨a, c, rfl⟩
  · exact ⟨_, c, rfl⟩
/-- Texts that are not too long. -/
def smallH (hs : List Hn) : Prop := ∀ h ∈ hs, h.1.size ≤ 1073741824 ∧ h.2.size ≤ 1073741824
theorem skeyed : Keyed Try.prog 9 := string_keyed Try.underlying9
theorem zeroH (w : World) : (zeroValue 29).run Try.prog w = .ok (hval ByteArray.empty ByteArray.empty) w := Try.zeroValue29 w
theorem skey_mk {x : ByteArray} (h : x.size ≤ 1073741824) : keyOf Try.prog 9 (.string x) = some (skey x) := WideMaps.keyOf_string_mk Try.underlying9 (by unfold maxLen; omega)
/-- The book in memory. -/
def Book (w : World) (B n : Nat) (f : ByteArray → Option ByteArray) : Prop := ∃ D, w.ownsMap Try.prog 9 R0 B n D ∧ BookIs D f
theorem Book.stays {w w' : World} {B n : Nat} {f : ByteArray → Option ByteArray} (h : Book w B n f) (hb : Below w.heap.size w w') : Book w' B n f := by
  obtain ⟨D, h1, h2⟩ := h
  have hlt := h1.lt
  obtain ⟨es, clock, he, F, hs, hD⟩ := h1
  exact ⟨D, ⟨es, clock, (hb.block _ hlt).trans he, F, hs, hD⟩, h2⟩
theorem Book.drew {w : World} {B n : Nat} {f : ByteArray → Option ByteArray} (h : Book w B n f) : Book w.drew B n f := h
theorem Book.lt {w : World} {B n : Nat} {f : ByteArray → Option ByteArray} (h : Book w B n f) : B < w.heap.size := h.elim fun _ h => h.1.lt
theorem Book.put {w : World} {B n : Nat} {f : ByteArray → Option ByteArray} (h : Book w B n f) (x p : ByteArray) (hx : x.size ≤ 1073741824) (hn : n < maxLen) :
    ∃ w', (Instr.mapUpdate 51 (.map (some B)) (.string x) (.agg #[.string x, .string p])).run Try.prog w = .ok () w' ∧ Book w' B (n + 1) (fun y => if x = y then some p else f y) ∧ w.grownBy w' (some B) := by
  obtain ⟨D, h1, h2⟩ := h
  obtain ⟨w', hup, hown, hg⟩ := h1.update skeyed Try.underlying51 hn (key := .string x) (val := .agg #[.string x, .string p]) (skey_mk hx) rfl
  exact ⟨w', hup, ⟨_, hown, h2.put x p⟩, hg⟩
theorem below_grown {B : Nat} {w0 w w' : World} (h : Below w0.heap.size w0 w) (hg : w.grownBy w' (some B)) (hB : w0.heap.size ≤ B) : Below w0.heap.size w0 w' :=
  h.trans ⟨hg.os, hg.tape, hg.output, hg.size, fun j hj => hg.block j (by have := h.size; omega) (by simp; omega)⟩
theorem Book.look_yes {w : World} {B n : Nat} {f : ByteArray → Option ByteArray} (h : Book w B n f) {x p : ByteArray} (hx : x.size ≤ 1073741824) (hf : f x = some p) :
    (Instr.lookup 51 (.map (some B)) (.string x) true).run Try.prog w = .ok (.tuple #[.agg #[.string x, .string p], .bool true]) w := by
  obtain ⟨D, h1, h2⟩ := h
  obtain ⟨v, ps, hrun, hv⟩ := h1.look_ok skeyed Try.underlying51 (zeroH w) (zd := .held (hval ByteArray.empty ByteArray.empty)) (zp := []) rfl (skey_mk hx)
  rw [h2.has x, hf] at hrun
  rw [h2.at_ x p hf] at hv
  simp only [R0, Option.some.injEq, Prod.mk.injEq, DataW.held.injEq] at hv
  rw [hv.1] at hrun
  exact hrun
theorem Book.look_no {w : World} {B n : Nat} {f : ByteArray → Option ByteArray} (h : Book w B n f) {x : ByteArray} (hx : x.size ≤ 1073741824) (hf : f x = none) :
    ∃ y q, (Instr.lookup 51 (.map (some B)) (.string x) true).run Try.prog w = .ok (.tuple #[.agg #[.string y, .string q], .bool false]) w := by
  obtain ⟨D, h1, h2⟩ := h
  obtain ⟨es, clock, hb, F, hs, hD⟩ := h1
  have hh := h2.has x
  rw [hf] at hh
  rcases Maps.fit_look true skeyed Try.underlying51 (zeroH w) hb F (skey_mk hx) with ⟨hrun, _, hat⟩ | ⟨e0, y, _, _, hrun, hRv, hat, _⟩
  · exact ⟨_, _, hrun⟩
  · have := Maps.has_true_of_atKey hat
    rw [← hD, hh] at this
    cases this
theorem Book.look_pre {w : World} {B n : Nat} {f : ByteArray → Option ByteArray} (h : Book w B n f) {x : ByteArray} (hx : x.size ≤ 1073741824) :
    ∃ y, (Instr.lookup 51 (.map (some B)) (.string x) false).run Try.prog w = .ok (.agg #[.string y, .string ((f x).getD ByteArray.empty)]) w := by
  obtain ⟨D, h1, h2⟩ := h
  obtain ⟨es, clock, hb, F, hs, hD⟩ := h1
  have hh := h2.has x
  rcases Maps.fit_look false skeyed Try.underlying51 (zeroH w) hb F (skey_mk hx) with ⟨hrun, _, hat⟩ | ⟨e0, y, _, _, hrun, hRv, hat, _⟩
  · cases hf : f x with
    | none => exact ⟨_, hrun⟩
    | some p =>
      have := Maps.has_false_of_atKey hat
      rw [← hD, hh, hf] at this
      cases this
  · cases hf : f x with
    | none =>
      have := Maps.has_true_of_atKey hat
      rw [← hD, hh, hf] at this
      cases this
    | some p =>
      have h3 := h2.at_ x p hf (.held (hval ByteArray.empty ByteArray.empty))
      rw [hD, hat] at h3
      have h4 : y = (.held e0.val, []) := by simpa [R0] using hRv.symm
      rw [h4] at h3
      have h5 : e0.val = hval x p := by simpa using h3
      rw [h5] at hrun
      exact ⟨x, hrun⟩
set_option maxHeartbeats 2000000 in
theorem book_any (w : World) (v : Value) (hs : List Hn) (hV : SlH w v hs) (hz : smallH hs) (hl : hs.length ≤ 1073741824) :
    Calls Try.prog 40 #[v] w fun e w' => (∃ B n, e = .returned (.map (some B)) ∧ Book w' B n (look hs)) ∧ Below w.heap.size w w' := by
  have hB0 : Book (w.alloc (.map #[] 0)) w.heap.size 0 (fun _ => none) := ⟨_, World.ownsMap_made w _ _ _, ⟨⟨_, rfl⟩, fun x => by simp [Maps.has], fun x p h => by simp at h⟩⟩
  obtain ⟨w1, hup1, hB1, hg1⟩ := hB0.put b2 coreT (by show 2 ≤ 1073741824; omega) (by unfold maxLen; omega)
  obtain ⟨w2, hup2, hB2, hg2⟩ := hB1.put b1 b1 (by show 1 ≤ 1073741824; omega) (by unfold maxLen; omega)
  have hal : Below w.heap.size w (w.alloc (.map #[] 0)) := (Below.refl _ w).alloc (Nat.le_refl _) _
  have hb2 : Below w.heap.size w w2 := below_grown (below_grown hal hg1 (Nat.le_refl _)) hg2 (Nat.le_refl _)
  have hBk : Book w2 w.heap.size 2 (look []) := hB2
  obtain ⟨a, c, rfl⟩ := hV.sl
  have HV : Hid (SlH w (.slice a hs.length c) hs) := hV
  have HZ : Hid (smallH hs) := hz
  clear hV hz hB0 hB1 hB2 hg1 hg2 hal
  unfold b2 coreT at hup1
  unfold b1 at hup2
  have hmm := @run_makeMap Try.prog
  go_enter Try.func40, Try.ntmps40
  go_wp2_with fail
  go_loopw [4] (fun i wr => ∃ (k n : Nat), k ≤ hs.length ∧ i = .int .i64 ((k : Int) - 1) ∧ n + k ≤ hs.length + 2 ∧ Book wr w.heap.size n (look (hs.drop k)) ∧ Below w.heap.size w wr) (fun i _ => (intOf i + 1).toNat)
  case atStart =>
    refine ⟨hs.length, 2, Nat.le_refl _, by go_num, by omega, ?_, hb2⟩
    rw [List.drop_length]
    exact hBk
  case round =>
    obtain ⟨k, n, hk, rfl, hn, hB, hb⟩ := hrel
    cases k with
    | zero =>
      go_wp2_with fail
      go_ret
      exact ⟨⟨_, _, rfl, hB⟩, hb⟩
    | succ j =>
      have e : (((j + 1 : Nat) : Int) - 1) = (j : Int) := by omega
      rw [e]
      obtain ⟨⟨x, p⟩, hx⟩ : ∃ h, hs[j]? = some h := ⟨_, List.getElem?_eq_getElem (by omega)⟩
      obtain ⟨hxz, hpz⟩ := HZ.out _ (List.mem_of_getElem? hx)
      have hdr : hs.drop j = (x, p) :: hs.drop (j + 1) := by
        have hjl : j < hs.length := by omega
        rw [List.drop_eq_getElem_cons hjl]
        congr 1
        rw [List.getElem?_eq_getElem hjl] at hx
        simpa using hx
      obtain ⟨b, off, rfl, c1, c2⟩ : ∃ b off, a = some ⟨b, off, none⟩ ∧ wr.cell? ⟨b, off + j * 2, none⟩ = some (.string x) ∧ wr.cell? ⟨b, off + j * 2 + 1, none⟩ = some (.string p) := by
        rcases HV.out with ⟨e, _⟩ | ⟨_, b, off, _, e, hbl, hcell⟩
        · rw [e] at hx; simp at hx
        · injection e with e
          exact ⟨b, off, e, by rw [hb.cell hbl]; exact (hcell j _ hx).1, by rw [hb.cell hbl]; exact (hcell j _ hx).2⟩
      obtain ⟨w3, hup, hB3, hg3⟩ := Book.put (w := wr.drew) hB x p hxz (by unfold maxLen; omega)
      have hb3 : Below w.heap.size w w3 := below_grown (hb.drew) hg3 (Nat.le_refl _)
      have HB3 : Hid (Book w3 w.heap.size (n + 1) (look (hs.drop j))) := by show Book w3 w.heap.size (n + 1) (look (hs.drop j)); rw [hdr]; exact hB3
      have hjl : (j : Int) < (hs.length : Int) := by omega
      clear hdr hB3 hg3 hx hxz hpz hB
      go_wp2_with fail
      go_region
      all_goals go_wp2_with fail
      all_goals go_roundw
      all_goals first | exact ⟨j, n + 1, by omega, by go_num, by omega, HB3.out, hb3⟩ | (simp only [intOf]; omega)
end Go.Proofs.Ytopmboioojedbai
