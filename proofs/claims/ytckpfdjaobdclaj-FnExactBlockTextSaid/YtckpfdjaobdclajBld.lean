/- The contracts of strings.Repeat, strings.Join and strings.Builder that the library holds, laid at this program. -/
import Derived.Shelf.Strings.BuilderK
import Derived.Shelf.Strings.OnBuilder
import Derived.Shelf.Strings.Repeat
import Derived.Test.YtckpfdjaobdclajSls
import Derived.Test.YtckpfdjaobdclajProg
namespace Go.Proofs
open Go.Shelf
def Try.laysJ_ren : Go.Shelf.Ren := ⟨fun | 99 => 27 | 105 => 18 | 165 => 28 | 166 => 13 | 169 => 15 | 170 => 29 | 206 => 34 | 212 => 26 | 240 => 20 | 241 => 35 | 263 => 32 | 264 => 33 | 276 => 30 | 277 => 37 | 156 => 22 | n => n, fun | 0 => 0 | 3 => 3 | 4 => 4 | 5 => 5 | 9 => 9 | 20 => 20 | 37 => 32 | 46 => 49 | 51 => 58 | 53 => 61 | 70 => 31 | 72 => 34 | 75 => 36 | 76 => 37 | 109 => 50 | 127 => 46 | 146 => 59 | 148 => 62 | 164 => 55 | 80 => 40 | 31 => 22 | n => n, fun | n => n⟩
theorem Try.lays105 : Go.Proofs.Lays.n105 Try.prog Try.laysJ_ren := {
  mixed := by kernel_rfl
  f99 := Try.func27.trans (congrArg some (by kernel_rfl))
  f105 := Try.func18.trans (congrArg some (by kernel_rfl))
  f165 := Try.func28.trans (congrArg some (by kernel_rfl))
  f166 := Try.func13.trans (congrArg some (by kernel_rfl))
  f169 := Try.func15.trans (congrArg some (by kernel_rfl))
  f170 := Try.func29.trans (congrArg some (by kernel_rfl))
  f206 := Try.func34.trans (congrArg some (by kernel_rfl))
  f212 := Try.func26.trans (congrArg some (by kernel_rfl))
  f240 := Try.func20.trans (congrArg some (by kernel_rfl))
  f241 := Try.func35.trans (congrArg some (by kernel_rfl))
  f263 := Try.func32.trans (congrArg some (by kernel_rfl))
  f264 := Try.func33.trans (congrArg some (by kernel_rfl))
  f276 := Try.func30.trans (congrArg some (by kernel_rfl))
  f277 := Try.func37.trans (congrArg some (by kernel_rfl))
  t0 := Try.underlying0
  a0 := Try.isAgg0
  z0 := Try.sizeOf0
  v0 := Try.zeroValue0
  t3 := Try.underlying3
  a3 := Try.isAgg3
  z3 := Try.sizeOf3
  v3 := Try.zeroValue3
  t4 := Try.underlying4
  a4 := Try.isAgg4
  z4 := Try.sizeOf4
  v4 := Try.zeroValue4
  t5 := Try.underlying5
  a5 := Try.isAgg5
  z5 := Try.sizeOf5
  v5 := Try.zeroValue5
  t9 := Try.underlying9
  a9 := Try.isAgg9
  z9 := Try.sizeOf9
  v9 := Try.zeroValue9
  t20 := Try.underlying20
  a20 := Try.isAgg20
  z20 := Try.sizeOf20
  v20 := Try.zeroValue20
  t37 := Try.underlying32
  a37 := Try.isAgg32
  z37 := Try.sizeOf32
  v37 := Try.zeroValue32
  t46 := Try.underlying49
  a46 := Try.isAgg49
  z46 := Try.sizeOf49
  v46 := Try.zeroValue49
  t51 := Try.underlying58
  a51 := Try.isAgg58
  z51 := Try.sizeOf58
  v51 := Try.zeroValue58
  t53 := Try.underlying61
  a53 := Try.isAgg61
  z53 := Try.sizeOf61
  v53 := Try.zeroValue61
  t70 := Try.underlying31
  a70 := Try.isAgg31
  z70 := Try.sizeOf31
  v70 := Try.zeroValue31
  t72 := Try.underlying34
  a72 := Try.isAgg34
  z72 := Try.sizeOf34
  v72 := Try.zeroValue34
  t75 := Try.underlying36
  a75 := Try.isAgg36
  z75 := Try.sizeOf36
  v75 := Try.zeroValue36
  t76 := Try.underlying37
  a76 := Try.isAgg37
  z76 := Try.sizeOf37
  v76 := Try.zeroValue37
  t109 := Try.underlying50
  a109 := Try.isAgg50
  z109 := Try.sizeOf50
  v109 := Try.zeroValue50
  t127 := Try.underlying46
  a127 := Try.isAgg46
  z127 := Try.sizeOf46
  v127 := Try.zeroValue46
  t146 := Try.underlying59
  a146 := Try.isAgg59
  z146 := Try.sizeOf59
  v146 := Try.zeroValue59
  t148 := Try.underlying62
  a148 := Try.isAgg62
  z148 := Try.sizeOf62
  v148 := Try.zeroValue62
  t164 := Try.underlying55
  a164 := Try.isAgg55
  z164 := Try.sizeOf55
  v164 := Try.zeroValue55 }
theorem Try.lays156 : Go.Proofs.Lays.n156 Try.prog Try.laysJ_ren := {
  mixed := by kernel_rfl
  f156 := Try.func22.trans (congrArg some (by kernel_rfl))
  f165 := Try.func28.trans (congrArg some (by kernel_rfl))
  f166 := Try.func13.trans (congrArg some (by kernel_rfl))
  f169 := Try.func15.trans (congrArg some (by kernel_rfl))
  f240 := Try.func20.trans (congrArg some (by kernel_rfl))
  f241 := Try.func35.trans (congrArg some (by kernel_rfl))
  f276 := Try.func30.trans (congrArg some (by kernel_rfl))
  f277 := Try.func37.trans (congrArg some (by kernel_rfl))
  t0 := Try.underlying0
  a0 := Try.isAgg0
  z0 := Try.sizeOf0
  v0 := Try.zeroValue0
  t3 := Try.underlying3
  a3 := Try.isAgg3
  z3 := Try.sizeOf3
  v3 := Try.zeroValue3
  t4 := Try.underlying4
  a4 := Try.isAgg4
  z4 := Try.sizeOf4
  v4 := Try.zeroValue4
  t9 := Try.underlying9
  a9 := Try.isAgg9
  z9 := Try.sizeOf9
  v9 := Try.zeroValue9
  t20 := Try.underlying20
  a20 := Try.isAgg20
  z20 := Try.sizeOf20
  v20 := Try.zeroValue20
  t31 := Try.underlying22
  a31 := Try.isAgg22
  z31 := Try.sizeOf22
  v31 := Try.zeroValue22
  t37 := Try.underlying32
  a37 := Try.isAgg32
  z37 := Try.sizeOf32
  v37 := Try.zeroValue32
  t70 := Try.underlying31
  a70 := Try.isAgg31
  z70 := Try.sizeOf31
  v70 := Try.zeroValue31
  t72 := Try.underlying34
  a72 := Try.isAgg34
  z72 := Try.sizeOf34
  v72 := Try.zeroValue34
  t75 := Try.underlying36
  a75 := Try.isAgg36
  z75 := Try.sizeOf36
  v75 := Try.zeroValue36
  t76 := Try.underlying37
  a76 := Try.isAgg37
  z76 := Try.sizeOf37
  v76 := Try.zeroValue37
  t127 := Try.underlying46
  a127 := Try.isAgg46
  z127 := Try.sizeOf46
  v127 := Try.zeroValue46
  t164 := Try.underlying55
  a164 := Try.isAgg55
  z164 := Try.sizeOf55
  v164 := Try.zeroValue55 }
theorem Try.Builder_Extra : Builder.Extra Try.prog Try.laysJ_ren := {
  sizeBuilder := by kernel_rfl
  liesBuilder := by kernel_rfl
  t5 := Try.underlying5
  a5 := Try.isAgg5
  z5 := Try.sizeOf5
  v5 := Try.zeroValue5
  infoByte := by kernel_rfl
  cellsByte := by kernel_rfl
  sizeByte := by kernel_rfl
  neB5 := by decide }

end Go.Proofs
namespace Go.Proofs.Ytckpfdjaobdclaj
open Go.RowKit Go.Lib
/-- The bytes of a repeated break. -/
theorem brks_rep : ∀ n : Nat, (⟨(Lib.repeatL [10] n).toArray⟩ : ByteArray) = brks n
  | 0 => rfl
  | n + 1 => by
    rw [brks, ← brks_rep n, Lib.repeatL]
    apply ba_ext'
    apply Array.ext'
    rw [ByteArray.data_append]
    simp [b10]
theorem rep_any (n : Nat) (w : World) (hn : n ≤ 33554432) :
    Calls Try.prog 18 #[.string b10, .int .i64 (n : Int)] w fun e w' => e = .returned (.string (brks n)) ∧ Below w.heap.size w w' := by
  rw [← brks_rep n]
  exact Any.strings_Repeat Try.lays105 Try.Builder_Extra b10 n w (by omega) (by show 1 * n ≤ _; omega)
/-- The lines with a break between each two. -/
theorem join_brk : ∀ ss : List ByteArray, (⟨(Lib.join (ss.map (·.data.toList)) [10]).toArray⟩ : ByteArray) = joinB ss
  | [] => rfl
  | [x] => by
    rw [List.map_cons, List.map_nil, Lib.join_one]
    rfl
  | x :: y :: t => by
    have ih := join_brk (y :: t)
    show _ = x ++ b10 ++ joinB (y :: t)
    rw [← ih, List.map_cons, Lib.join_cons, List.map_cons, Lib.join_cons]
    apply ba_ext'
    apply Array.ext'
    rw [ByteArray.data_append, ByteArray.data_append]
    simp [b10, Lib.joinTail]
theorem joinB_sz : ∀ l : List ByteArray, (joinB l).size ≤ totS l + l.length
  | [] => Nat.le_refl _
  | [x] => by show x.size ≤ x.size + 0 + 1; omega
  | x :: y :: t => by
    have ih := joinB_sz (y :: t)
    show (x ++ b10 ++ joinB (y :: t)).size ≤ x.size + totS (y :: t) + (y :: t).length + 1
    rw [ByteArray.size_append, ByteArray.size_append, show b10.size = 1 from rfl]
    omega
theorem join_any (w : World) (v : Value) (ss : List ByteArray) (hV : SlS w v ss) (hl : totS ss + ss.length ≤ 33554432) :
    Calls Try.prog 22 #[v, .string b10] w fun e w' => e = .returned (.string (joinB ss)) ∧ Below w.heap.size w w' := by
  rcases hV with ⟨rfl, a, c, rfl⟩ | ⟨h0, b, off, c, rfl, hlt, hlc, hc⟩
  · refine (Any.strings_Join_none Try.lays156 Try.Builder_Extra a c b10 w).mono ?_
    rintro e w' ⟨rfl, rfl⟩
    exact ⟨rfl, Below.refl _ _⟩
  · rw [← join_brk ss]
    refine Any.strings_Join Try.lays156 Try.Builder_Extra b off c ss b10 w hc hlt (by omega) hlc ?_
    have h1 := joinB_sz ss
    rw [← join_brk ss] at h1
    have h2 : (Lib.join (ss.map (·.data.toList)) b10.data.toList).length ≤ totS ss + ss.length := h1
    omega
/-- A builder of the call's own, in block b, with the bytes o. -/
def Bd (B b : Nat) (o : ByteArray) (w : World) : Prop := Lib.IsBuilderF 34 5 B b (Lib.byteCells o.data.toList) w
theorem Bd.stays {B b : Nat} {o : ByteArray} {w w' : World} (h : Bd B b o w) (hb : Below w.heap.size w w') : Bd B b o w' := by
  have one : ∀ p, Lib.BuilderAtF 34 5 B b p (Lib.byteCells o.data.toList) w → Lib.BuilderAtF 34 5 B b p (Lib.byteCells o.data.toList) w' := by
    intro p hp
    have hlt := hp.lt
    obtain ⟨hB, v, hk, hown, hne⟩ := hp
    exact ⟨hB, v, (hb.block _ hlt).trans hk, hown.kept (row := none) ⟨hb.os, hb.tape, hb.output, hb.size, fun k hk' _ => hb.block k hk'⟩ (by cases hv : v.ownBlock <;> simp), hne⟩
  exact h.elim (fun x => .inl (one _ x)) (fun x => .inr (one _ x))
theorem Bd.fresh (w : World) : Bd w.heap.size w.heap.size ByteArray.empty (w.alloc (.cells #[.pointer none, .slice none 0 0] 34)) :=
  Lib.IsBuilderF.of (Lib.fresh_isBuilder 34 5 w)
theorem Bd.lt {B b : Nat} {o : ByteArray} {w : World} (h : Bd B b o w) : b < w.heap.size := h.elim (·.lt) (·.lt)
theorem write_any (B b : Nat) (o s : ByteArray) (w : World) (h : Bd B b o w) (hl : o.size + s.size ≤ 140737488355328) (hB : B ≤ w.heap.size) :
    Calls Try.prog 13 #[.pointer (some ⟨b, 0, none⟩), .string s] w fun e w' => e = .returned (.tuple #[.int .i64 s.size, .nilIface]) ∧ Bd B b (o ++ s) w' ∧ Below B w w' ∧ Lib.OthersKept 5 (some b) w w' := by
  refine (Any.Builder_WriteString_k { Try.lays105 with } Try.Builder_Extra B b (Lib.byteCells o.data.toList) s w h (by rw [Lib.byteCells_length]; exact hl) hB).mono ?_
  rintro e w' ⟨rfl, h1, h2, h3⟩
  refine ⟨rfl, ?_, h2, h3⟩
  unfold Bd
  rw [ByteArray.data_append, Array.toList_append, Lib.byteCells_append]
  exact .inr h1
theorem string_any (B b : Nat) (o : ByteArray) (w : World) (h : Bd B b o w) (hB : B ≤ w.heap.size) :
    Calls Try.prog 15 #[.pointer (some ⟨b, 0, none⟩)] w fun e w' => e = .returned (.string o) ∧ Below B w w' := by
  refine (Any.Builder_String_any_k { Try.lays105 with } Try.Builder_Extra B b o.data.toList w h hB).mono ?_
  rintro e w' ⟨rfl, _, h2, _⟩
  exact ⟨rfl, h2⟩
end Go.Proofs.Ytckpfdjaobdclaj
