/- The contracts of impl.where, propsText, styleSign and shown. -/
import Derived.Test.YtleajpkdikcfpalDoorBls
import Derived.Test.YtleajpkdikcfpalDoorPec
import Derived.Test.YtleajpkdikcfpalDoorSpp
import Derived.Test.YtleajpkdikcfpalDoorEvl
import Derived.Test.YtleajpkdikcfpalDoorOvr
import Derived.Deep.QuietTactic
import Derived.BigQuiet
import Derived.Lib.IndexLaws
import Derived.LoopN
namespace Go.Proofs.YtleajpkdikcfpalDoor
open Go.ChangeShapes Go.WideShapes Go.ChangeAt Go.RowKit
theorem where_yes (t : ByteArray) (w : World) : Calls Tryd.prog 23 #[.bool true, .string t] w fun e w' => e = .returned (.string t) ∧ w' = w := by
  go_enter Tryd.func23, Tryd.ntmps23
  go_wp2_with fail
  go_ret
  exact ⟨rfl, rfl⟩
theorem where_no (t : ByteArray) (w : World) : Calls Tryd.prog 23 #[.bool false, .string t] w fun e w' => e = .returned (.string ⟨#[]⟩) ∧ w' = w := by
  go_enter Tryd.func23, Tryd.ntmps23
  go_wp2_with fail
  go_ret
  exact ⟨rfl, rfl⟩
theorem where_any (b : Bool) (t : ByteArray) (w : World) : Calls Tryd.prog 23 #[.bool b, .string t] w fun e w' => e = .returned (.string (if b = true then t else ⟨#[]⟩)) ∧ w' = w := by
  cases b
  · exact where_no t w
  · exact where_yes t w
theorem app_nil (a : ByteArray) : a ++ (⟨#[]⟩ : ByteArray) = a := by
  show a ++ ByteArray.empty = a
  simp
theorem nil_app (a : ByteArray) : (⟨#[]⟩ : ByteArray) ++ a = a := by
  show ByteArray.empty ++ a = a
  simp
theorem props_sum (a t : ByteArray) (na nt : Bool) (ha : noB a = na) (ht : noB t = nt) :
    (if (!na) = true then (⟨#[32, 38]⟩ : ByteArray) ++ a else ⟨#[]⟩) ++ (if (!nt) = true then (⟨#[32, 60]⟩ : ByteArray) ++ t ++ ⟨#[62]⟩ else ⟨#[]⟩) = prT (prA a) t := by
  unfold prT prA
  rw [ha, ht]
  cases na <;> cases nt <;> simp [app_nil, nil_app, ByteArray.append_assoc]
  all_goals rfl
theorem noB_isE (a : ByteArray) : noB a = a.toList.isEmpty := by
  unfold noB
  cases a.toList <;> rfl
theorem ifS_size (b : Bool) (t : ByteArray) : (if b = true then t else (⟨#[]⟩ : ByteArray)).size ≤ t.size := by
  cases b
  · exact Nat.zero_le _
  · exact Nat.le_refl _
set_option maxRecDepth 100000 in
set_option maxHeartbeats 4000000 in
theorem propsText_any (e : Ev) (w : World) (ha : e.anchor.size ≤ 1048576) (ht : e.tag.size ≤ 1048576) (p : ByteArray) (hp : propsB e = p) :
    Calls Tryd.prog 24 #[.agg e.row] w fun r w' => r = .returned (.string p) ∧ Below w.heap.size w w' := by
  obtain ⟨kind, style, flag, text, anchor, tag, at_, code⟩ := e
  replace ha : anchor.size ≤ 1048576 := ha
  replace ht : tag.size ≤ 1048576 := ht
  have hp' : prT (prA anchor) tag = p := hp
  have HP : Hid ((if (!anchor.toList.isEmpty) = true then (⟨#[32, 38]⟩ : ByteArray) ++ anchor else ⟨#[]⟩) ++ (if (!tag.toList.isEmpty) = true then (⟨#[32, 60]⟩ : ByteArray) ++ tag ++ ⟨#[62]⟩ else ⟨#[]⟩) = p) := by
    rw [← hp']
    exact props_sum anchor tag _ _ (noB_isE _) (noB_isE _)
  have s1 : (⟨#[32, 38]⟩ : ByteArray).size = 2 := rfl
  have s2 : (⟨#[32, 60]⟩ : ByteArray).size = 2 := rfl
  have s3 : (⟨#[62]⟩ : ByteArray).size = 1 := rfl
  have add1 : ∀ w : World, (Op.stringOp .add (⟨#[32, 38]⟩ : ByteArray) anchor).run Tryd.prog w = .ok (.string (⟨#[32, 38]⟩ ++ anchor)) w := fun w => run_string_add_sum w _ _ (by rw [s1]; omega)
  have add3 : ∀ w : World, (Op.stringOp .add (⟨#[32, 60]⟩ : ByteArray) tag).run Tryd.prog w = .ok (.string (⟨#[32, 60]⟩ ++ tag)) w := fun w => run_string_add_sum w _ _ (by rw [s2]; omega)
  have add4 : ∀ w : World, (Op.stringOp .add (⟨#[32, 60]⟩ ++ tag) (⟨#[62]⟩ : ByteArray)).run Tryd.prog w = .ok (.string (⟨#[32, 60]⟩ ++ tag ++ ⟨#[62]⟩)) w := fun w => run_string_add_sum w _ _ (by rw [ByteArray.size_append, s2, s3]; omega)
  have add5 : ∀ w : World, (Op.stringOp .add (if (!anchor.toList.isEmpty) = true then (⟨#[32, 38]⟩ : ByteArray) ++ anchor else ⟨#[]⟩) (if (!tag.toList.isEmpty) = true then (⟨#[32, 60]⟩ : ByteArray) ++ tag ++ ⟨#[62]⟩ else ⟨#[]⟩)).run Tryd.prog w = .ok (.string p) w := fun w => by
    rw [← HP.out]
    refine run_string_add_sum w _ _ ?_
    have h1 := ifS_size (!anchor.toList.isEmpty) ((⟨#[32, 38]⟩ : ByteArray) ++ anchor)
    have h2 := ifS_size (!tag.toList.isEmpty) ((⟨#[32, 60]⟩ : ByteArray) ++ tag ++ ⟨#[62]⟩)
    rw [ByteArray.size_append, s1] at h1
    rw [ByteArray.size_append, ByteArray.size_append, s2, s3] at h2
    omega
  have cA : Hid (∀ w, Calls Tryd.prog 23 #[.bool (!anchor.toList.isEmpty), .string (⟨#[32, 38]⟩ ++ anchor)] w fun e w' => e = .returned (.string (if (!anchor.toList.isEmpty) = true then (⟨#[32, 38]⟩ : ByteArray) ++ anchor else ⟨#[]⟩)) ∧ w' = w) := fun w => where_any _ _ w
  have cT : Hid (∀ w, Calls Tryd.prog 23 #[.bool (!tag.toList.isEmpty), .string (⟨#[32, 60]⟩ ++ tag ++ ⟨#[62]⟩)] w fun e w' => e = .returned (.string (if (!tag.toList.isEmpty) = true then (⟨#[32, 60]⟩ : ByteArray) ++ tag ++ ⟨#[62]⟩ else ⟨#[]⟩)) ∧ w' = w) := fun w => where_any _ _ w
  generalize (if (!anchor.toList.isEmpty) = true then (⟨#[32, 38]⟩ : ByteArray) ++ anchor else ⟨#[]⟩) = X at *
  generalize (if (!tag.toList.isEmpty) = true then (⟨#[32, 60]⟩ : ByteArray) ++ tag ++ ⟨#[62]⟩ else ⟨#[]⟩) = Y at *
  unfold Ev.row
  clear hp hp' s1 s2 s3 ha ht HP
  have hal : Hid (Below w.heap.size w (w.alloc (.cells #[.int .i64 kind, .int .i64 style, .bool flag, .string text, .string anchor, .string tag, .int .i64 at_, .int .i64 code] 33))) := (Below.refl _ w).alloc (Nat.le_refl _) _
  go_enter Tryd.func24, Tryd.ntmps24
  go_wp2_with fail
  go_quiet (first | (go_at_call 23; exact Calls.quiet_of_same (cA.out _)) | (go_at_call 23; exact Calls.quiet_of_same (cT.out _)))
  go_wp2
  go_ret
  exact ⟨rfl, hal.out.trans ((below_drewN _ _).mono hal.out.size)⟩
set_option maxRecDepth 100000 in
set_option maxHeartbeats 2000000 in
theorem sign_any (st : Int) (w : World) (h1 : 1 ≤ st) (h5 : st ≤ 5) :
    Calls Tryd.prog 25 #[.int .i64 st] w fun e w' => e = .returned (.string ((⟨#[32, 58, 39, 34, 124, 62]⟩ : ByteArray).extract st.toNat (st.toNat + 1))) ∧ Below w.heap.size w w' := by
  have hk : st = 1 ∨ st = 2 ∨ st = 3 ∨ st = 4 ∨ st = 5 := by omega
  have HA : Hid (Below w.heap.size w (w.alloc (.cells #[.string ⟨#[]⟩, .string ⟨#[58]⟩, .string ⟨#[39]⟩, .string ⟨#[34]⟩, .string ⟨#[124]⟩, .string ⟨#[62]⟩] 55))) := (Below.refl _ w).alloc (Nat.le_refl _) _
  clear h1 h5
  rcases hk with rfl | rfl | rfl | rfl | rfl
  all_goals
    go_enter Tryd.func25, Tryd.ntmps25
    go_wp2_with fail
    go_ret
    exact ⟨rfl, HA.out⟩
end Go.Proofs.YtleajpkdikcfpalDoor
