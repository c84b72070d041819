/-
  Layer 14: the law LocateStays.
-/
import Derived.Test.YtnaelmddafhjlaaJu
namespace Go.Proofs.Ytnaelmddafhjlaa.Bo
open Go.RowKit Rw
set_option linter.unusedVariables false
set_option linter.unusedSimpArgs false

/-! ### What is reserved, of a list and a pair -/
def heldS (X : List Lo) (p : K2) : Int := heldO (X.find? fun x => decide (keyl x = p))
theorem Dec.find {X L R : List Lo} {p : K2} {o : Option Lo} (h : Dec keyl X p L o R) : (X.find? fun x => decide (keyl x = p)) = o := by
  have h1 : (L.find? fun x => decide (keyl x = p)) = none := List.find?_eq_none.2 fun x hx => by simpa using ltK_ne (h.lo x hx)
  have h2 : (R.find? fun x => decide (keyl x = p)) = none := List.find?_eq_none.2 fun x hx => by simpa using fun e => ltK_ne (h.hi x hx) e.symm
  rw [h.eq, List.find?_append, List.find?_append, h1, h2]
  cases o with
  | none => rfl
  | some y => simp [h.mid y rfl]
theorem heldS_dec {X L R : List Lo} {p : K2} {o : Option Lo} (h : Dec keyl X p L o R) : heldS X p = heldO o := by unfold heldS; rw [h.find]
theorem heldS_other {L R : List Lo} {p p' : K2} {o o' : Option Lo} (ho : ∀ y, o = some y → keyl y = p) (ho' : ∀ y, o' = some y → keyl y = p) (hne : p' ≠ p) : heldS (L ++ (o'.toList ++ R)) p' = heldS (L ++ (o.toList ++ R)) p' := by
  have key : ∀ (u : Option Lo), (∀ y, u = some y → keyl y = p) → (u.toList.find? fun x => decide (keyl x = p')) = none := fun u hu => by
    cases u with
    | none => rfl
    | some y =>
      have : ¬ keyl y = p' := fun e => hne (by rw [← e]; exact hu y rfl)
      simp [this]
  unfold heldS
  rw [List.find?_append, List.find?_append, List.find?_append, List.find?_append, key o ho, key o' ho']
theorem heldS_bd {X : List Lo} (h : ∀ x ∈ X, stockB x.qty = true) (p : K2) : 0 ≤ heldS X p ∧ heldS X p ≤ 1000000000 := by
  unfold heldS
  cases hf : X.find? fun x => decide (keyl x = p) with
  | none => exact ⟨by decide, by decide⟩
  | some y => exact stockB_iff.1 (h y (List.mem_of_find?_eq_some hf))
theorem held_lift (a : Option Addr) (len cap : Nat) (X : List Lo) (c d : Int) (w : World) (h : Has encl w a X) (hl : X.length = len) (hm : len ≤ 4611686018427387903) (hP : X.Pairwise (fun a b => ltK (keyl a) (keyl b) = true)) :
    Calls Try.prog 15 #[.slice a len cap, .int .i64 c, .int .i64 d] w fun e w' => e = .returned (.int .i64 (heldS X (c, d))) ∧ Below w.heap.size w w' := by
  obtain ⟨L, o, R, hd⟩ := dec_of (key := keyl) (c, d) hP
  rw [heldS_dec hd]
  exact held_any a len cap X L R o c d w h hl hm hd

/-! ### Lists that can be -/
theorem goodS_of {Z : List Int} {X : List Lo} {A B : Int} (h : goodS Z X A B = true) : X.length ≤ 32 ∧ X.Pairwise (fun a b => ltK (keyl a) (keyl b) = true) ∧ (∀ z ∈ Z, stockB z = true) ∧ ∀ x ∈ X, goodB x A Z.length = true := by
  unfold goodS at h
  simp only [Bool.and_eq_true, decide_eq_true_eq, List.all_eq_true] at h
  exact ⟨h.2.1, rise_pair h.2.2.1, h.2.2.2.1, h.2.2.2.2⟩
theorem goodS_mk {Z : List Int} {X : List Lo} {A B : Int} (h0 : (Z.length : Int) = B) (h1 : X.length ≤ 32) (h2 : X.Pairwise (fun a b => ltK (keyl a) (keyl b) = true)) (h3 : ∀ z ∈ Z, stockB z = true) (h4 : ∀ x ∈ X, goodB x A Z.length = true) : goodS Z X A B = true := by
  unfold goodS
  simp only [Bool.and_eq_true, decide_eq_true_eq, List.all_eq_true]
  exact ⟨h0, h1, rise_of h2, h3, h4⟩
theorem mem_getD {Z : List Int} {j : Nat} (hj : j < Z.length) : Z.getD j 0 ∈ Z := by
  rw [List.getD_eq_getElem?_getD, List.getElem?_eq_getElem hj]
  exact List.getElem_mem hj
theorem goodB_stock {x : Lo} {A : Int} {n : Nat} (h : goodB x A n = true) : stockB x.qty = true := by rw [good_ok, Bool.and_eq_true] at h; exact h.1
theorem resE_of {Z : List Int} {n : Nat} {o : Option Lo} {i q : Int} (h : resE Z n o i q = 0) : exB Z.length i = true ∧ qtyB q = true ∧ stockB (heldO o + q) = true ∧ ¬ Z.getD i.toNat 0 < q ∧ ¬ 1000000000 < Z.getD i.toNat 0 - q ∧ ¬ (o.isNone = true ∧ 0 < heldO o + q ∧ 32 ≤ n) := by
  unfold resE at h
  by_cases h1 : exB Z.length i = false
  · rw [if_pos h1] at h; exact absurd h (by decide)
  rw [if_neg h1] at h
  by_cases h2 : qtyB q = false ∨ stockB (heldO o + q) = false
  · rw [if_pos h2] at h; exact absurd h (by decide)
  rw [if_neg h2] at h
  by_cases h3 : Z.getD i.toNat 0 < q
  · rw [if_pos h3] at h; exact absurd h (by decide)
  rw [if_neg h3] at h
  by_cases h4 : 1000000000 < Z.getD i.toNat 0 - q
  · rw [if_pos h4] at h; exact absurd h (by decide)
  rw [if_neg h4] at h
  by_cases h5 : o.isNone = true ∧ 0 < heldO o + q ∧ 32 ≤ n
  · rw [if_pos h5] at h; exact absurd h (by decide)
  exact ⟨by simpa using h1, by simpa using fun e => h2 (.inl e), by simpa using fun e => h2 (.inr e), h3, h4, h5⟩
theorem resE_mk {Z : List Int} {n : Nat} {o : Option Lo} {i q : Int} (h1 : exB Z.length i = true) (h2 : qtyB q = true) (h3 : stockB (heldO o + q) = true) (h4 : ¬ Z.getD i.toNat 0 < q) (h5 : ¬ 1000000000 < Z.getD i.toNat 0 - q) (h6 : ¬ (o.isNone = true ∧ 0 < heldO o + q ∧ 32 ≤ n)) : resE Z n o i q = 0 := by
  unfold resE
  rw [h1, h2, h3, if_neg (by decide), if_neg (by decide), if_neg h4, if_neg h5, if_neg h6]
theorem heldO_resO (c i s : Int) : heldO (resO c i s) = s := by
  unfold resO
  split
  · rename_i h; rw [h]; rfl
  · rfl
theorem resO_key {c i s : Int} : ∀ y, resO c i s = some y → keyl y = (c, i) := fun y e => by
  unfold resO at e
  split at e
  · cases e
  · cases e; rfl
structure Back (Z : List Int) (X L : List Lo) (o : Option Lo) (R : List Lo) (c : Int) (k : Nat) (q : Int) (Zn : List Int) (Xn : List Lo) (on : Option Lo) : Prop where
  good : goodS Zn Xn 16 (Z.length : Int) = true
  dec : Dec keyl Xn (c, (k : Int)) L on R
  held : heldO on = heldO o + q
  err : resE Zn Xn.length on (k : Int) (-q) = 0
  backZ : Zn.set k (Zn.getD k 0 - -q) = Z
  backX : L ++ ((resO c (k : Int) (heldO on + -q)).toList ++ R) = X
  len : Zn.length = Z.length
  at_k : Zn.getD k 0 = Z.getD k 0 - q
  other : ∀ j, j ≠ k → Zn.getD j 0 = Z.getD j 0
  same : ∀ p, p ≠ (c, (k : Int)) → heldS Xn p = heldS X p
theorem back_of {Z : List Int} {X L R : List Lo} {o : Option Lo} {c q : Int} {k : Nat} (hg : goodS Z X 16 (Z.length : Int) = true) (hd : Dec keyl X (c, (k : Int)) L o R) (hk : k < Z.length) (c1 : 2 ≤ c) (c2 : c ≤ 15) (hE : resE Z X.length o (k : Int) q = 0) :
    Back Z X L o R c k q (Z.set k (Z.getD k 0 - q)) (L ++ ((resO c (k : Int) (heldO o + q)).toList ++ R)) (resO c (k : Int) (heldO o + q)) := by
  obtain ⟨g1, g2, g3, g4⟩ := goodS_of hg
  obtain ⟨e1, e2, e3, e4, e5, e6⟩ := resE_of hE
  rw [Int.toNat_natCast] at e4 e5
  obtain ⟨z1, z2⟩ := stockB_iff.1 (g3 _ (mem_getD hk))
  obtain ⟨q1, q2⟩ := qtyB_iff.1 e2
  obtain ⟨s1, s2⟩ := stockB_iff.1 e3
  have ho : ∀ y, o = some y → y ∈ X := fun y e => hd.mem y e
  have hoq : ∀ y, o = some y → 1 ≤ y.qty ∧ y.qty ≤ 1000000000 := fun y e => by
    have := goodB_iff.1 (g4 y (ho y e)); omega
  have hO : 0 ≤ heldO o ∧ heldO o ≤ 1000000000 := by
    cases o with
    | none => exact ⟨by decide, by decide⟩
    | some y => have := hoq y rfl; exact ⟨by show 0 ≤ y.qty; omega, this.2⟩
  have hlen := hd.len
  have hln : (L ++ ((resO c (k : Int) (heldO o + q)).toList ++ R)).length ≤ 32 := by
    simp only [List.length_append]
    unfold resO
    split
    · simp only [Option.toList, List.length_nil]; omega
    · rename_i hs
      simp only [Option.toList, List.length_cons, List.length_nil]
      cases o with
      | none =>
        have : ¬ (32 ≤ X.length) := fun h => e6 ⟨rfl, by omega, h⟩
        simp at hlen; omega
      | some y => simp at hlen; omega
  have hdn := hd.put (resO c (k : Int) (heldO o + q)) resO_key
  have hval : (Z.set k (Z.getD k 0 - q)).getD k 0 = Z.getD k 0 - q := by simp [List.getD, hk]
  refine ⟨?_, hdn, heldO_resO _ _ _, ?_, ?_, ?_, by simp, hval, fun j hj => by simp [List.getD, Ne.symm hj], fun p hp => ?_⟩
  · refine goodS_mk (by simp) hln (hd.rise g2 _ resO_key) (fun z hz => ?_) (fun x hx => ?_)
    · rcases List.mem_or_eq_of_mem_set hz with h | h
      · exact g3 z h
      · rw [h]; exact stockB_iff.2 ⟨by omega, by omega⟩
    · rw [List.length_set]
      rcases List.mem_append.1 hx with h | h
      · exact g4 x (by rw [hd.eq]; simp [h])
      · rcases List.mem_append.1 h with h | h
        · unfold resO at h
          split at h
          · simp at h
          · rename_i hs
            obtain rfl : x = ⟨c, (k : Int), heldO o + q⟩ := by simpa using h
            exact goodB_iff.2 ⟨c1, by show c < 16; omega, by show (0 : Int) ≤ (k : Int); omega, by show (k : Int) < (Z.length : Int); omega, by show 1 ≤ heldO o + q; omega, s2⟩
        · exact g4 x (by rw [hd.eq]; simp [h])
  · refine resE_mk (by simpa using e1) (qtyB_iff.2 ⟨by omega, by omega⟩) ?_ ?_ ?_ ?_
    · rw [heldO_resO]; exact stockB_iff.2 ⟨by omega, by omega⟩
    · rw [Int.toNat_natCast, hval]; omega
    · rw [Int.toNat_natCast, hval]; omega
    · rintro ⟨h1, h2, h3⟩
      rw [heldO_resO] at h2
      have hs : heldO o + q = 0 := by
        unfold resO at h1
        split at h1
        · assumption
        · simp at h1
      have hsome : o.isSome = true := by
        cases o with
        | none => exact absurd h2 (by show ¬ 0 < heldO none + q + -q; have : heldO none = 0 := rfl; omega)
        | some y => rfl
      have h4 : (resO c (k : Int) (heldO o + q)) = none := if_pos hs
      rw [h4] at h3
      have h5 : o.toList.length = 1 := by rw [Dec.olen, hsome]; rfl
      have h6 : (L ++ ((none : Option Lo).toList ++ R)).length = L.length + R.length := by simp
      rw [h6] at h3
      omega
  · rw [List.set_set, hval]
    apply List.ext_getElem (by simp)
    intro j h1 h2
    rw [List.getElem_set]
    split
    · rename_i h; subst h
      rw [List.getD_eq_getElem?_getD, List.getElem?_eq_getElem h2]
      show Z[_] - q - -q = Z[_]
      omega
    · rfl
  · rw [heldO_resO]
    have e : heldO o + q + -q = heldO o := by omega
    rw [e]
    have : resO c (k : Int) (heldO o) = o := by
      cases o with
      | none => rfl
      | some y =>
        have h1 := hoq y rfl
        have h2 := hd.mid y rfl
        have h3 : y.acct = c := congrArg Prod.fst h2
        have h4 : y.instr = (k : Int) := congrArg Prod.snd h2
        unfold resO
        rw [if_neg (by show ¬ y.qty = 0; omega), ← h3, ← h4]
        rfl
    rw [this]
    exact hd.eq.symm
  · rw [heldS_other hd.mid resO_key hp, ← hd.eq]
end Go.Proofs.Ytnaelmddafhjlaa.Bo
