/- What is shared in a right graph: the kids alone tell it. -/
import Derived.Test.YtgaibajkegfpoaaGvu
namespace Go.Proofs.Ytgaibajkegfpoaa
open Go.ChangeShapes Go.WideShapes Go.ChangeAt Go.RowKit Go.Deep
def hits (i : Nat) (ks : List Int) : Nat := ks.countP (fun k => k.toNat == i)
def hitsN (i : Nat) : List Nd → Nat
  | [] => 0
  | n :: t => hits i n.kids + hitsN i t
theorem incAt_getD (l : List Int) (k i : Nat) (hk : k < l.length) : (incAt l k).getD i 0 = l.getD i 0 + (if k = i then 1 else 0) := by
  unfold incAt
  by_cases e : k = i
  · subst e
    rw [getD_set_self _ _ _ _ hk, if_pos rfl]
  · rw [getD_set_other _ _ _ _ _ (Ne.symm e), if_neg e]
    omega
theorem incAt_len (l : List Int) (k : Nat) : (incAt l k).length = l.length := by unfold incAt; exact List.length_set
theorem cntI_len : ∀ (ks l : List Int), (cntI l ks).length = l.length
  | [], _ => rfl
  | k :: ks, l => by
    show (cntI (incAt l k.toNat) ks).length = _
    rw [cntI_len ks, incAt_len]
theorem cntI_getD : ∀ (ks l : List Int) (i : Nat), (∀ k ∈ ks, k.toNat < l.length) → (cntI l ks).getD i 0 = l.getD i 0 + (hits i ks : Int)
  | [], l, i, _ => by show l.getD i 0 = l.getD i 0 + 0; omega
  | k :: ks, l, i, h => by
    show (cntI (incAt l k.toNat) ks).getD i 0 = _
    rw [cntI_getD ks _ i (fun x hx => by rw [incAt_len]; exact h x (List.mem_cons_of_mem _ hx)), incAt_getD _ _ _ (h k (List.mem_cons_self ..))]
    unfold hits
    rw [List.countP_cons]
    by_cases e : k.toNat = i
    · simp [e]
      omega
    · simp [e]
theorem cntN_len : ∀ (ns : List Nd) (l : List Int), (cntN l ns).length = l.length
  | [], _ => rfl
  | n :: ns, l => by
    show (cntN (cntI l n.kids) ns).length = _
    rw [cntN_len ns, cntI_len]
theorem cntN_getD : ∀ (ns : List Nd) (l : List Int) (i : Nat), (∀ n ∈ ns, ∀ k ∈ n.kids, k.toNat < l.length) → (cntN l ns).getD i 0 = l.getD i 0 + (hitsN i ns : Int)
  | [], l, i, _ => by show l.getD i 0 = l.getD i 0 + 0; omega
  | n :: ns, l, i, h => by
    show (cntN (cntI l n.kids) ns).getD i 0 = _
    rw [cntN_getD ns _ i (fun m hm k hk => by rw [cntI_len]; exact h m (List.mem_cons_of_mem _ hm) k hk), cntI_getD _ _ _ (h n (List.mem_cons_self ..))]
    show _ = _ + ((hits i n.kids + hitsN i ns : Nat) : Int)
    omega
theorem sharedTo_ext {l m : List Int} : ∀ (N : Nat), (∀ k, k < N → (1 < l.getD k 0 ↔ 1 < m.getD k 0)) → sharedTo l N = sharedTo m N
  | 0, _ => rfl
  | N + 1, h => by
    have ih := sharedTo_ext N (fun k hk => h k (by omega))
    have h1 := h N (Nat.lt_succ_self _)
    rw [sharedTo, sharedTo, ih]
    by_cases e : 1 < l.getD N 0
    · rw [if_pos e, if_pos (h1.1 e)]
    · rw [if_neg e, if_neg (fun e2 => e (h1.2 e2))]
theorem hits_nodup {i : Nat} : ∀ {ks : List Int}, (ks.map Int.toNat).Nodup → hits i ks ≤ 1
  | [], _ => Nat.zero_le _
  | k :: ks, h => by
    rw [List.map_cons, List.nodup_cons] at h
    have ih := hits_nodup (i := i) h.2
    unfold hits at ih ⊢
    rw [List.countP_cons]
    by_cases e : k.toNat = i
    · have h0 : ks.countP (fun k => k.toNat == i) = 0 := by
        rw [List.countP_eq_zero]
        intro x hx hxe
        apply h.1
        have hxi : x.toNat = i := by simpa using hxe
        rw [e, ← hxi]
        exact List.mem_map.2 ⟨x, hx, rfl⟩
      rw [h0]
      simp [e]
    · simp [e]
      exact ih
theorem hits_zero {i : Nat} {ks : List Int} (h : ∀ k ∈ ks, k.toNat ≠ i) : hits i ks = 0 := by
  unfold hits
  rw [List.countP_eq_zero]
  intro x hx hxe
  exact h x hx (by simpa using hxe)
theorem hitsN_zero {i : Nat} : ∀ {ns : List Nd}, (∀ n ∈ ns, ∀ k ∈ n.kids, k.toNat ≠ i) → hitsN i ns = 0
  | [], _ => rfl
  | n :: ns, h => by
    show hits i n.kids + hitsN i ns = 0
    rw [hits_zero (h n (List.mem_cons_self ..)), hitsN_zero (fun m hm => h m (List.mem_cons_of_mem _ hm))]
theorem shared_kids {g : Gr} (h : graphOkP g = true) : sharedG g = sharedTo (cntN (List.replicate g.nodes.length 0) g.nodes) g.nodes.length := by
  unfold sharedG
  rw [if_pos h]
  obtain ⟨_, hk, hr⟩ := ok_parts h
  obtain ⟨r1, r2⟩ := right_roots h
  have hkn : ∀ n ∈ g.nodes, ∀ k ∈ n.kids, 0 ≤ k ∧ k < (g.nodes.length : Int) := fun n hn k hkk => by
    obtain ⟨j, hj⟩ := List.mem_iff_getElem?.1 hn
    have := hk j
    rw [kids_at hj] at this
    exact this k hkk
  refine sharedTo_ext _ fun i hi => ?_
  rw [cntN_getD _ _ _ (fun n hn k hkk => by rw [cntI_len, List.length_replicate]; have := hkn n hn k hkk; omega), cntN_getD _ _ _ (fun n hn k hkk => by rw [List.length_replicate]; have := hkn n hn k hkk; omega),
    cntI_getD _ _ _ (fun k hkk => by rw [List.length_replicate]; have := hr k hkk; omega)]
  have z : (List.replicate g.nodes.length (0 : Int)).getD i 0 = 0 := by simp [List.getD, hi]
  rw [z]
  by_cases e : i ∈ g.roots.map Int.toNat
  · have h1 := hits_nodup (i := i) r1
    have h2 : hitsN i g.nodes = 0 := hitsN_zero fun n hn k hkk ek => by
      obtain ⟨j, hj⟩ := List.mem_iff_getElem?.1 hn
      have := r2 j (List.getElem?_eq_some_iff.1 hj).1 k (by rw [kids_at hj]; exact hkk)
      rw [ek] at this
      exact this e
    rw [h2]
    omega
  · have h1 : hits i g.roots = 0 := hits_zero fun k hkk ek => e (List.mem_map.2 ⟨k, hkk, ek⟩)
    rw [h1]
    omega
end Go.Proofs.Ytgaibajkegfpoaa
