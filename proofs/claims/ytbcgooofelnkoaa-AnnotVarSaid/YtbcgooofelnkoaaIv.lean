/- A region that draws its order, at large, by what holds between its operations: each is shown once, whatever the order. Conditions: none. -/
import Derived.Test.YtbcgooofelnkoaaLa
namespace Go.Proofs.Ytbcgooofelnkoaa
open Go.RowKit
set_option linter.unusedVariables false

section
variable {P : Program} {md : Region.Mode} {ops : Array Oper} {Q : Exit → Act → World → Prop}

theorem ready_open {listed : Array Bool} {i : Nat} (h : i ∈ Region.ready md ops listed) : i < ops.size ∧ listed.getD i true = false := by
  unfold Region.ready at h
  obtain ⟨h1, h2⟩ := List.mem_filter.1 h
  refine ⟨List.mem_range.1 h1, ?_⟩
  simp only [Bool.and_eq_true, Bool.not_eq_true'] at h2
  exact h2.1
theorem ready_dep {listed : Array Bool} {i : Nat} (h : i ∈ Region.ready md ops listed) {o : Oper} (ho : ops[i]? = some o) (d : Nat) (hd : (o.after.any fun e => Region.binds md e && (e.on == d)) = true) : listed.getD d false = true := by
  unfold Region.ready at h
  obtain ⟨h1, h2⟩ := List.mem_filter.1 h
  simp only [Bool.and_eq_true, ho, Option.map_some, Option.getD_some] at h2
  obtain ⟨e, he, hb⟩ := Array.any_eq_true'.1 hd
  simp only [Bool.and_eq_true, beq_iff_eq] at hb
  have h3 := Array.all_eq_true'.1 h2.2 e he
  rw [hb.1, hb.2] at h3
  simpa using h3
theorem ready_none {listed : Array Bool} (hs : listed.size = ops.size) (h : listed.toList.count false = 0) : Region.ready md ops listed = [] := by
  unfold Region.ready
  rw [List.filter_eq_nil_iff]
  intro i hi
  have hi' : i < listed.size := by rw [hs]; exact List.mem_range.1 hi
  have : listed.getD i true = true := by
    unfold Array.getD
    rw [dif_pos hi']
    cases hb : listed[i] with
    | true => exact hb
    | false =>
      have hm : false ∈ listed.toList := by rw [← hb]; simp
      have := List.count_pos_iff.2 hm
      omega
  rw [this]; simp
theorem count_less {listed : Array Bool} {i : Nat} (h : listed.getD i true = false) : (listed.setIfInBounds i true).toList.count false + 1 = listed.toList.count false := by
  have hi : i < listed.size := by
    rcases Nat.lt_or_ge i listed.size with g | g
    · exact g
    · unfold Array.getD at h
      rw [dif_neg (by omega)] at h
      cases h
  have hb : listed.toList[i]'(by simpa using hi) = false := by
    unfold Array.getD at h
    rw [dif_pos hi] at h
    simpa using h
  have hm : 0 < listed.toList.count false := List.count_pos_iff.2 (by rw [← hb]; exact List.getElem_mem _)
  rw [Array.toList_setIfInBounds, List.count_set (by simpa using hi), hb, show (false == false) = true from rfl, show (true == false) = false from rfl]
  simp only [if_true, Bool.false_eq_true, if_false]
  omega

theorem getD_set {listed : Array Bool} {i d : Nat} (h : d ≠ i) : (listed.setIfInBounds i true).getD d false = listed.getD d false := by
  simp only [Array.getD_eq_getD_getElem?]
  rw [Array.getElem?_setIfInBounds_ne (fun e => h e.symm)]
theorem open_not {listed : Array Bool} {i : Nat} (h : listed.getD i true = false) : listed.getD i false = false := by
  simp only [Array.getD_eq_getD_getElem?] at h ⊢
  cases hb : listed[i]? with
  | none => rfl
  | some b => rw [hb] at h; exact h
/-- What is listed has what it waits for listed ahead of it. -/
def Down (md : Region.Mode) (ops : Array Oper) (listed : Array Bool) : Prop := ∀ (d : Nat) (o : Oper), ops[d]? = some o → listed.getD d false = true → ∀ e : Nat, (o.after.any fun x => Region.binds md x && (x.on == e)) = true → listed.getD e false = true
theorem Down.step {listed : Array Bool} {i : Nat} (h : Down md ops listed) (hi : i ∈ Region.ready md ops listed) : Down md ops (listed.setIfInBounds i true) := by
  intro d o ho hd e he
  by_cases hei : e = i
  · subst hei
    have h1 := (ready_open hi).2
    have : e < listed.size := by
      rcases Nat.lt_or_ge e listed.size with g | g
      · exact g
      · unfold Array.getD at h1
        rw [dif_neg (by omega)] at h1
        cases h1
    simp only [Array.getD_eq_getD_getElem?]
    rw [Array.getElem?_setIfInBounds_self_of_lt this]; rfl
  · rw [getD_set hei]
    by_cases hdi : d = i
    · subst hdi
      exact ready_dep hi ho e he
    · rw [getD_set hdi] at hd
      exact h d o ho hd e he
theorem Down.start (m : Nat) : Down md ops (Array.replicate m false) := by
  intro d o _ hd
  exfalso
  simp only [Array.getD_eq_getD_getElem?, Array.getElem?_replicate] at hd
  split at hd <;> simp at hd

/-- Each operation waits for earlier ones alone. -/
def early (ops : Array Oper) : Bool := (List.range ops.size).all fun d => match ops[d]? with | some o => o.after.all fun e => decide (e.on < d) | none => true
theorem ready_nil {listed : Array Bool} (hs : listed.size = ops.size) (he : early ops = true) (h : Region.ready md ops listed = []) : ∀ d, d < ops.size → listed.getD d false = true := by
  intro d
  induction d using Nat.strongRecOn with
  | ind d ih =>
    intro hd
    have ho : ops[d]? = some ops[d] := Array.getElem?_eq_getElem hd
    have h1 := List.all_eq_true.1 he d (List.mem_range.2 hd)
    rw [ho] at h1
    have h2 : d ∉ Region.ready md ops listed := by rw [h]; simp
    unfold Region.ready at h2
    rw [List.mem_filter, ho] at h2
    have h3 : (ops[d].after.all fun e => !Region.binds md e || listed.getD e.on false) = true := by
      rw [Array.all_eq_true']
      intro e hm
      have h4 := Array.all_eq_true'.1 h1 e hm
      have h5 := ih e.on (by simpa using h4) (by have : e.on < d := by simpa using h4
                                                 omega)
      rw [h5]; simp
    simp only [Option.map_some, Option.getD_some, h3, Bool.and_true, List.mem_range] at h2
    cases hg : listed.getD d true with
    | false => exact absurd ⟨hd, by rw [hg]; rfl⟩ h2
    | true =>
      have hd' : d < listed.size := by omega
      unfold Array.getD at hg ⊢
      rw [dif_pos hd'] at hg ⊢
      exact hg

theorem wpAny_inv (I : Array Bool → Act → World → Prop) (he : early ops = true)
    (hstep : ∀ listed a w i, Down md ops listed → I listed a w → i ∈ Region.ready md ops listed → wpOp P ops Q i (I (listed.setIfInBounds i true)) a w)
    (hend : ∀ listed a w, I listed a w → (∀ d, d < ops.size → listed.getD d false = true) → Q .normal a w) :
    ∀ (fuel : Nat) (listed : Array Bool) (a : Act) (w : World), listed.size = ops.size → listed.toList.count false ≤ fuel → Down md ops listed → I listed a w → wpAny P md ops Q fuel listed a w
  | 0, listed, a, w, hs, hc, hd, h => by
    have h0 := ready_none (md := md) hs (by omega)
    exact ⟨h0, hend _ _ _ h (ready_nil hs he h0)⟩
  | fuel + 1, listed, a, w, hs, hc, hd, h => ⟨fun h0 => hend _ _ _ h (ready_nil hs he h0), fun i hi => wpOp_mono (fun a' w' h' => wpAny_inv I he hstep hend fuel _ a' w' (by simpa using hs) (by
      have := count_less (ready_open hi).2
      omega) (hd.step hi) h') (hstep _ _ _ _ hd h hi)⟩
theorem region_inv {id : Nat} {a : Act} {w : World} (hm : P.follows .mixedOrders = true) (I : Array Bool → Act → World → Prop) (he : early ops = true)
    (hstep : ∀ listed a w i, Down .any ops listed → I listed a w → i ∈ Region.ready .any ops listed → wpOp P ops Q i (I (listed.setIfInBounds i true)) a w)
    (hend : ∀ listed a w, I listed a w → (∀ d, d < ops.size → listed.getD d false = true) → Q .normal a w) (h0 : I (Array.replicate ops.size false) a w.drew) : (Code.region id ops true).wp P Q a w :=
  wp_region_any hm (wpAny_inv I he hstep hend _ _ _ _ (by simp) (by simp) (Down.start _) h0)
/-- An operation of the region, in a state of it. -/
theorem wpOp_at {i : Nat} {o : Oper} {K : Act → World → Prop} {a : Act} {w : World} (ho : ops[i]? = some o) (hg : o.guard = none) (h : o.wp P a w K Q) : wpOp P ops Q i K a w := by
  unfold wpOp
  rw [ho]
  simp only
  rw [if_pos (by unfold Region.wanted; rw [hg])]
  exact .inl h
theorem wpOp_step {i : Nat} {o : Oper} {I' : Act → World → Prop} {a : Act} {w : World} (ho : ops[i]? = some o) (hg : o.guard = none) (h : ∀ K : Act → World → Prop, (∀ a' w', I' a' w' → K a' w') → o.wp P a w K Q) : wpOp P ops Q i I' a w :=
  wpOp_at ho hg (h _ (fun _ _ h => h))
theorem getD_self {listed : Array Bool} {i : Nat} (hi : i < listed.size) : (listed.setIfInBounds i true).getD i false = true := by
  simp only [Array.getD_eq_getD_getElem?]
  rw [Array.getElem?_setIfInBounds_self_of_lt hi]; rfl
end
end Go.Proofs.Ytbcgooofelnkoaa
