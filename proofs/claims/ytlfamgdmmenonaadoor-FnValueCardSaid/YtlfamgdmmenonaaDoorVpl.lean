/- What a scalar is worth, as plain functions. -/
import Derived.Test.YtlfamgdmmenonaaDoorPva
import Derived.Test.YtlfamgdmmenonaaDoorEvs
namespace Go.Proofs.YtlfamgdmmenonaaDoor
open Go.RowKit
structure Va where
  kind : Int
  n : Int
  b : Bool
  s : ByteArray
def Va.row (v : Va) : Array Value := #[.int .i64 v.kind, .int .i64 v.n, .bool v.b, .string v.s]
def nulls : List (List UInt8) := [[], [126], [110, 117, 108, 108], [78, 117, 108, 108], [78, 85, 76, 76]]
def trues : List (List UInt8) := [[116, 114, 117, 101], [84, 114, 117, 101], [84, 82, 85, 69]]
def falses : List (List UInt8) := [[102, 97, 108, 115, 101], [70, 97, 108, 115, 101], [70, 65, 76, 83, 69]]
/-- What a plain text is worth. -/
def plV (s : ByteArray) : Va :=
  if s.toList ∈ nulls then ⟨1, 0, false, ⟨#[]⟩⟩
  else if s.toList ∈ trues then ⟨2, 0, true, ⟨#[]⟩⟩
  else if s.toList ∈ falses then ⟨2, 0, false, ⟨#[]⟩⟩
  else if (numOf s).2 = true then ⟨3, (numOf s).1, false, ⟨#[]⟩⟩
  else ⟨4, 0, false, s⟩
def coreT (l : List UInt8) : List UInt8 := [116, 97, 103, 58, 121, 97, 109, 108, 46, 111, 114, 103, 44, 50, 48, 48, 50, 58] ++ l
def tStr : List UInt8 := [116, 97, 103, 58, 121, 97, 109, 108, 46, 111, 114, 103, 44, 50, 48, 48, 50, 58, 115, 116, 114]
def tNul : List UInt8 := [116, 97, 103, 58, 121, 97, 109, 108, 46, 111, 114, 103, 44, 50, 48, 48, 50, 58, 110, 117, 108, 108]
def tBoo : List UInt8 := [116, 97, 103, 58, 121, 97, 109, 108, 46, 111, 114, 103, 44, 50, 48, 48, 50, 58, 98, 111, 111, 108]
def tInt : List UInt8 := [116, 97, 103, 58, 121, 97, 109, 108, 46, 111, 114, 103, 44, 50, 48, 48, 50, 58, 105, 110, 116]
/-- What a text is worth where its tag says of which kind it is to be. -/
def tgV (s : ByteArray) (k : Int) : Va := if (plV s).kind = k then plV s else ⟨7, 0, false, s⟩
def scV (style : Int) (text tag : ByteArray) : Va :=
  if tag.toList = [] then (if style = 1 then plV text else ⟨4, 0, false, text⟩)
  else if tag.toList = [33] then ⟨4, 0, false, text⟩
  else if tag.toList = tStr then ⟨4, 0, false, text⟩
  else if tag.toList = tNul then tgV text 1
  else if tag.toList = tBoo then tgV text 2
  else if tag.toList = tInt then tgV text 3
  else ⟨7, 0, false, text⟩
def noV : Va := ⟨0, 0, false, ⟨#[]⟩⟩
/-- What a right event is worth. -/
def woV (e : Ev) : Va :=
  if e.kind = 3 then ⟨5, 0, false, ⟨#[]⟩⟩
  else if e.kind = 4 then ⟨6, 0, false, ⟨#[]⟩⟩
  else if e.kind = 6 then ⟨8, 0, false, e.text⟩
  else if e.kind = 5 then scV e.style e.text e.tag
  else noV
/-- What ValueOf answers. -/
def vaV (e : Ev) : Va := if evOk e = true then woV e else noV
theorem plV_null {s : ByteArray} (h : s.toList ∈ nulls) : plV s = ⟨1, 0, false, ⟨#[]⟩⟩ := by unfold plV; rw [if_pos h]
theorem plV_true {s : ByteArray} (h0 : s.toList ∉ nulls) (h : s.toList ∈ trues) : plV s = ⟨2, 0, true, ⟨#[]⟩⟩ := by unfold plV; rw [if_neg h0, if_pos h]
theorem plV_false {s : ByteArray} (h0 : s.toList ∉ nulls) (h1 : s.toList ∉ trues) (h : s.toList ∈ falses) : plV s = ⟨2, 0, false, ⟨#[]⟩⟩ := by unfold plV; rw [if_neg h0, if_neg h1, if_pos h]
theorem plV_num {s : ByteArray} (h0 : s.toList ∉ nulls) (h1 : s.toList ∉ trues) (h2 : s.toList ∉ falses) {r : Int} (h : numOf s = (r, true)) : plV s = ⟨3, r, false, ⟨#[]⟩⟩ := by unfold plV; rw [if_neg h0, if_neg h1, if_neg h2, h]; rfl
theorem plV_text {s : ByteArray} (h0 : s.toList ∉ nulls) (h1 : s.toList ∉ trues) (h2 : s.toList ∉ falses) {r : Int} (h : numOf s = (r, false)) : plV s = ⟨4, 0, false, s⟩ := by unfold plV; rw [if_neg h0, if_neg h1, if_neg h2, h]; rfl
/-- One of four. -/
theorem plV_four (s : ByteArray) : plV s = ⟨1, 0, false, ⟨#[]⟩⟩ ∨ (∃ b, plV s = ⟨2, 0, b, ⟨#[]⟩⟩) ∨ (∃ r, numOf s = (r, true) ∧ plV s = ⟨3, r, false, ⟨#[]⟩⟩) ∨ plV s = ⟨4, 0, false, s⟩ := by
  unfold plV
  split
  · exact .inl rfl
  · split
    · exact .inr (.inl ⟨_, rfl⟩)
    · split
      · exact .inr (.inl ⟨_, rfl⟩)
      · split
        · rename_i h
          exact .inr (.inr (.inl ⟨(numOf s).1, by rw [← h], rfl⟩))
        · exact .inr (.inr (.inr rfl))
theorem numOf_le (s : ByteArray) : -9007199254740991 ≤ (numOf s).1 ∧ (numOf s).1 ≤ 9007199254740991 := by
  have f : ∀ t b, -9007199254740991 ≤ (finN (digV t b)).1 ∧ (finN (digV t b)).1 ≤ 9007199254740991 := fun t b => by
    have := digV_le t b
    unfold finN
    split
    · exact ⟨by decide, by decide⟩
    · exact ⟨by show _ ≤ digV t b; omega, this.2⟩
  have g : ∀ t b, -9007199254740991 ≤ (negN (digV t b)).1 ∧ (negN (digV t b)).1 ≤ 9007199254740991 := fun t b => by
    have := digV_le t b
    unfold negN
    split
    · exact ⟨by decide, by decide⟩
    · exact ⟨by show _ ≤ -digV t b; omega, by show -digV t b ≤ _; omega⟩
  unfold numOf
  split
  · exact f _ _
  · split
    · exact f _ _
    · split
      · exact g _ _
      · split
        · exact f _ _
        · exact f _ _
end Go.Proofs.YtlfamgdmmenonaaDoor
