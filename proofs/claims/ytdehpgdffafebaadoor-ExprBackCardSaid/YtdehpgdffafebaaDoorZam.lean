/- A region that draws its order, by what holds between its operations: each is shown once, whatever the order; inside a fence, in a round too, and at large. Conditions: none.
strings.Join, as the shelf's contract says it, at this program's numbers. Conditions: each contract's own. -/
import Derived.Test.YtdehpgdffafebaaDoorZah
import Derived.OwnWalkIn
import Derived.Shelf.Strings.OnBuilder
import Derived.Test.YtdehpgdffafebaaDoorZab
namespace Go.Proofs.YtdehpgdffafebaaDoor
open Go.RowKit

section
variable {F : Fence} {n : Nat} {P : Program} {md : Region.Mode} {ops : Array Oper} {Q : Exit → Act → World → Prop}

theorem ready_open {listed : Array Bool} {i : Nat} (h : i ∈ Region.ready md ops listed) : i < ops.size ∧ listed.getD i true = false := by
  unfold Region.ready at h
  obtain ⟨h1, h2⟩ := List.mem_filter.1 h
  refine ⟨List.mem_range.1 h1, ?_⟩
  simp only [Bool.and_eq_true, Bool.not_eq_true'] at h2
  exact h2.1
theorem ready_dep {listed : Array Bool} {i : Nat} (h : i ∈ Region.ready md ops listed) {o : Oper} (ho : ops[i]? = some o) (d : Nat) (hd : (o.after.any fun e => Region.binds md e && (e.on == d)) = true) : listed.getD d false = true := by
  unfold Region.ready at h
  obtain ⟨h1, h2⟩ := List.mem_filter.1 h
  simp only [Bool.and_eq_true, ho, Option.map_some, Option.getD_some] at h2
  obtain ⟨e, he, hb⟩ := Array.any_eq_true'.1 hd
  simp only [Bool.and_eq_true, beq_iff_eq] at hb
  have h3 := Array.all_eq_true'.1 h2.2 e he
  rw [hb.1, hb.2] at h3
  simpa using h3
theorem ready_none {listed : Array Bool} (hs : listed.size = ops.size) (h : listed.toList.count false = 0) : Region.ready md ops listed = [] := by
  unfold Region.ready
  rw [List.filter_eq_nil_iff]
  intro i hi
  have hi' : i < listed.size := by rw [hs]; exact List.mem_range.1 hi
  have : listed.getD i true = true := by
    unfold Array.getD
    rw [dif_pos hi']
    cases hb : listed[i] with
    | true => exact hb
    | false =>
      have hm : false ∈ listed.toList := by rw [← hb]; simp
      have := List.count_pos_iff.2 hm
      omega
  rw [this]; simp
theorem count_less {listed : Array Bool} {i : Nat} (h : listed.getD i true = false) : (listed.setIfInBounds i true).toList.count false + 1 = listed.toList.count false := by
  have hi : i < listed.size := by
    rcases Nat.lt_or_ge i listed.size with g | g
    · exact g
    · unfold Array.getD at h
      rw [dif_neg (by omega)] at h
      cases h
  have hb : listed.toList[i]'(by simpa using hi) = false := by
    unfold Array.getD at h
    rw [dif_pos hi] at h
    simpa using h
  have hm : 0 < listed.toList.count false := List.count_pos_iff.2 (by rw [← hb]; exact List.getElem_mem _)
  rw [Array.toList_setIfInBounds, List.count_set (by simpa using hi), hb, show (false == false) = true from rfl, show (true == false) = false from rfl]
  simp only [if_true, Bool.false_eq_true, if_false]
  omega

theorem getD_set {listed : Array Bool} {i d : Nat} (h : d ≠ i) : (listed.setIfInBounds i true).getD d false = listed.getD d false := by
  simp only [Array.getD_eq_getD_getElem?]
  rw [Array.getElem?_setIfInBounds_ne (fun e => h e.symm)]
theorem open_not {listed : Array Bool} {i : Nat} (h : listed.getD i true = false) : listed.getD i false = false := by
  simp only [Array.getD_eq_getD_getElem?] at h ⊢
  cases hb : listed[i]? with
  | none => rfl
  | some b => rw [hb] at h; exact h
/-- What is listed has what it waits for listed ahead of it. -/
def Down (md : Region.Mode) (ops : Array Oper) (listed : Array Bool) : Prop := ∀ (d : Nat) (o : Oper), ops[d]? = some o → listed.getD d false = true → ∀ e : Nat, (o.after.any fun x => Region.binds md x && (x.on == e)) = true → listed.getD e false = true
theorem Down.step {listed : Array Bool} {i : Nat} (h : Down md ops listed) (hi : i ∈ Region.ready md ops listed) : Down md ops (listed.setIfInBounds i true) := by
  intro d o ho hd e he
  by_cases hei : e = i
  · subst hei
    have h1 := (ready_open hi).2
    have : e < listed.size := by
      rcases Nat.lt_or_ge e listed.size with g | g
      · exact g
      · unfold Array.getD at h1
        rw [dif_neg (by omega)] at h1
        cases h1
    simp only [Array.getD_eq_getD_getElem?]
    rw [Array.getElem?_setIfInBounds_self_of_lt this]; rfl
  · rw [getD_set hei]
    by_cases hdi : d = i
    · subst hdi
      exact ready_dep hi ho e he
    · rw [getD_set hdi] at hd
      exact h d o ho hd e he
theorem Down.start (m : Nat) : Down md ops (Array.replicate m false) := by
  intro d o _ hd
  exfalso
  simp only [Array.getD_eq_getD_getElem?, Array.getElem?_replicate] at hd
  split at hd <;> simp at hd

/-- Each operation waits for earlier ones alone. -/
def early (ops : Array Oper) : Bool := (List.range ops.size).all fun d => match ops[d]? with | some o => o.after.all fun e => decide (e.on < d) | none => true
theorem ready_nil {listed : Array Bool} (hs : listed.size = ops.size) (he : early ops = true) (h : Region.ready md ops listed = []) : ∀ d, d < ops.size → listed.getD d false = true := by
  intro d
  induction d using Nat.strongRecOn with
  | ind d ih =>
    intro hd
    have ho : ops[d]? = some ops[d] := Array.getElem?_eq_getElem hd
    have h1 := List.all_eq_true.1 he d (List.mem_range.2 hd)
    rw [ho] at h1
    have h2 : d ∉ Region.ready md ops listed := by rw [h]; simp
    unfold Region.ready at h2
    rw [List.mem_filter, ho] at h2
    have h3 : (ops[d].after.all fun e => !Region.binds md e || listed.getD e.on false) = true := by
      rw [Array.all_eq_true']
      intro e hm
      have h4 := Array.all_eq_true'.1 h1 e hm
      have h5 := ih e.on (by simpa using h4) (by have : e.on < d := by simpa using h4
                                                 omega)
      rw [h5]; simp
    simp only [Option.map_some, Option.getD_some, h3, Bool.and_true, List.mem_range] at h2
    cases hg : listed.getD d true with
    | false => exact absurd ⟨hd, by rw [hg]; rfl⟩ h2
    | true =>
      have hd' : d < listed.size := by omega
      unfold Array.getD at hg ⊢
      rw [dif_pos hd'] at hg ⊢
      exact hg

theorem wpAnyIn_inv (I : Array Bool → Act → World → Prop) (he : early ops = true)
    (hstep : ∀ listed a w i, Down md ops listed → I listed a w → i ∈ Region.ready md ops listed → wpOpIn F n P ops Q i (I (listed.setIfInBounds i true)) a w)
    (hend : ∀ listed a w, I listed a w → (∀ d, d < ops.size → listed.getD d false = true) → Q .normal a w) :
    ∀ (fuel : Nat) (listed : Array Bool) (a : Act) (w : World), listed.size = ops.size → listed.toList.count false ≤ fuel → Down md ops listed → I listed a w → wpAnyIn F n P md ops Q fuel listed a w
  | 0, listed, a, w, hs, hc, hd, h => by
    have h0 := ready_none (md := md) hs (by omega)
    exact ⟨h0, hend _ _ _ h (ready_nil hs he h0)⟩
  | fuel + 1, listed, a, w, hs, hc, hd, h => ⟨fun h0 => hend _ _ _ h (ready_nil hs he h0), fun i hi => wpOpIn_mono (fun a' w' h' => wpAnyIn_inv I he hstep hend fuel _ a' w' (by simpa using hs) (by
      have := count_less (ready_open hi).2
      omega) (hd.step hi) h') (hstep _ _ _ _ hd h hi)⟩

theorem regionIn_inv {id : Nat} {a : Act} {w : World} (hm : P.follows .mixedOrders = true) (I : Array Bool → Act → World → Prop) (he : early ops = true)
    (hstep : ∀ listed a w i, Down .any ops listed → I listed a w → i ∈ Region.ready .any ops listed → wpOpIn F n P ops Q i (I (listed.setIfInBounds i true)) a w)
    (hend : ∀ listed a w, I listed a w → (∀ d, d < ops.size → listed.getD d false = true) → Q .normal a w) (h0 : I (Array.replicate ops.size false) a w.drew) : (Code.region id ops true).wpIn F n P Q a w :=
  wpIn_region_any hm (wpAnyIn_inv I he hstep hend _ _ _ _ (by simp) (by simp) (Down.start _) h0)

/-- An operation of the region, in a state of it. -/
theorem wpOpIn_at {i : Nat} {o : Oper} {K : Act → World → Prop} {a : Act} {w : World} (ho : ops[i]? = some o) (hg : o.guard = none) (h : o.wpIn F n P a w K Q) : wpOpIn F n P ops Q i K a w := by
  unfold wpOpIn
  rw [ho]
  simp only
  rw [if_pos (by unfold Region.wanted; rw [hg])]
  exact h

theorem wpOpIn_append {w : World} {i : Nat} {o : Oper} {a : Act} {K : Act → World → Prop} (ho : ops[i]? = some o)
    (hg : o.guard = none) (s x : Operand) (t : TypeId) (hop : o.op = Op.call { callee := Callee.builtin Builtin.append, args := #[s, x], argTypes := #[t, t] })
    (base : Nat) (e : TypeId) (inf : TypeInfo) (z : Value) (size bytes : Nat) (h1 : P.underlying t = some (.slice e)) (h2 : P.info? e = some inf) (h3 : inf.zero = some z) (h4 : inf.size = size) (h5 : inf.bytes = bytes) (h6 : z.cells.size = size) (h7 : 0 < size)
    (v : Value) (k : Nat) (xs : List Value) (hs : a.eval s = v) (hown : w.ownsRow base e size v k xs) (ad : Addr) (m c : Nat) (news : List Value) (hx : a.eval x = .slice (some ad) m c) (hn : news.length = m * size)
    (hc : ∀ j u, news[j]? = some u → w.cell? (ad.add j) = some u) (h1c : ∀ u ∈ news, u.oneCell' = true) (b1 : k + m ≤ maxLen) (b2 : (k + m) * bytes ≤ 140737488355328) (b3 : base ≤ w.heap.size)
    (hK : ∀ v' w', w'.ownsRow base e size v' (k + m) (xs ++ news) → w.grownBy w' v.ownBlock → K (a.put o.dst v') w') :
    wpOpIn F n P ops Q i K a w := by
  refine wpOpIn_at ho hg ?_
  obtain ⟨v', w', hrun, r1, r2, r3⟩ := run_append_own (P := P) w base t o.type e inf z size bytes h1 h2 h3 h4 h5 h6 h7 v k xs hown ad m c news hn hc h1c b1 b2 b3
  unfold Oper.wpIn
  refine ⟨?_, ?_⟩
  · simp [Oper.about, hop, resolve, Target.leads, Sem.run_pure]
  · rw [Oper.semAt_plain F _ _ (by rw [hop]; intro c hc'; cases hc')]
    simp [execOp, hop, resolve, invoke, builtin, hs, hx, hrun, Result.andThen]
    exact hK v' w' r1 r2
end
end Go.Proofs.YtdehpgdffafebaaDoor
namespace Go.Proofs.YtdehpgdffafebaaDoor
open Go.Shelf
def Tryd.lays156_ren : Go.Shelf.Ren := ⟨fun | 156 => 39 | 165 => 57 | 166 => 58 | 169 => 59 | 240 => 73 | 241 => 74 | 276 => 82 | 277 => 83  | n => n, fun | 31 => 27 | 9 => 9 | 3 => 3 | 4 => 4 | 0 => 0 | 20 => 20 | 72 => 87 | 76 => 91 | 70 => 84 | 37 => 85 | 75 => 90 | 127 => 101 | 164 => 109 | 5 => 5 | 80 => 93  | n => n, fun | n => n⟩
theorem Tryd.lays156 : Go.Proofs.Lays.n156 Tryd.prog Tryd.lays156_ren := {
  mixed := by kernel_rfl
  f156 := Tryd.func39.trans (congrArg some (by kernel_rfl))
  f165 := Tryd.func57.trans (congrArg some (by kernel_rfl))
  f166 := Tryd.func58.trans (congrArg some (by kernel_rfl))
  f169 := Tryd.func59.trans (congrArg some (by kernel_rfl))
  f240 := Tryd.func73.trans (congrArg some (by kernel_rfl))
  f241 := Tryd.func74.trans (congrArg some (by kernel_rfl))
  f276 := Tryd.func82.trans (congrArg some (by kernel_rfl))
  f277 := Tryd.func83.trans (congrArg some (by kernel_rfl))
  t0 := Tryd.underlying0
  a0 := Tryd.isAgg0
  z0 := Tryd.sizeOf0
  v0 := Tryd.zeroValue0
  t3 := Tryd.underlying3
  a3 := Tryd.isAgg3
  z3 := Tryd.sizeOf3
  v3 := Tryd.zeroValue3
  t4 := Tryd.underlying4
  a4 := Tryd.isAgg4
  z4 := Tryd.sizeOf4
  v4 := Tryd.zeroValue4
  t9 := Tryd.underlying9
  a9 := Tryd.isAgg9
  z9 := Tryd.sizeOf9
  v9 := Tryd.zeroValue9
  t20 := Tryd.underlying20
  a20 := Tryd.isAgg20
  z20 := Tryd.sizeOf20
  v20 := Tryd.zeroValue20
  t31 := Tryd.underlying27
  a31 := Tryd.isAgg27
  z31 := Tryd.sizeOf27
  v31 := Tryd.zeroValue27
  t37 := Tryd.underlying85
  a37 := Tryd.isAgg85
  z37 := Tryd.sizeOf85
  v37 := Tryd.zeroValue85
  t70 := Tryd.underlying84
  a70 := Tryd.isAgg84
  z70 := Tryd.sizeOf84
  v70 := Tryd.zeroValue84
  t72 := Tryd.underlying87
  a72 := Tryd.isAgg87
  z72 := Tryd.sizeOf87
  v72 := Tryd.zeroValue87
  t75 := Tryd.underlying90
  a75 := Tryd.isAgg90
  z75 := Tryd.sizeOf90
  v75 := Tryd.zeroValue90
  t76 := Tryd.underlying91
  a76 := Tryd.isAgg91
  z76 := Tryd.sizeOf91
  v76 := Tryd.zeroValue91
  t127 := Tryd.underlying101
  a127 := Tryd.isAgg101
  z127 := Tryd.sizeOf101
  v127 := Tryd.zeroValue101
  t164 := Tryd.underlying109
  a164 := Tryd.isAgg109
  z164 := Tryd.sizeOf109
  v164 := Tryd.zeroValue109 }
theorem Tryd.Builder_Extra_156 : Builder.Extra Tryd.prog Tryd.lays156_ren := {
  sizeBuilder := by kernel_rfl
  liesBuilder := by kernel_rfl
  t5 := Tryd.underlying5
  a5 := Tryd.isAgg5
  z5 := Tryd.sizeOf5
  v5 := Tryd.zeroValue5
  infoByte := by kernel_rfl
  cellsByte := by kernel_rfl
  sizeByte := by kernel_rfl
  neB5 := by decide }
open Go.RowKit in
theorem Tryd.strings_Join_none (a : Option Addr) (c : Nat) (sep : ByteArray) (w : World) :
    Calls Tryd.prog 39 #[.slice a 0 c, .string sep] w fun e w' => e = .returned (.string ⟨#[]⟩) ∧ w' = w := Any.strings_Join_none Tryd.lays156 Tryd.Builder_Extra_156 a c sep w
open Go.RowKit in
theorem Tryd.strings_Join (bk o c : Nat) (xs : List ByteArray) (sep : ByteArray) (w : World) (hcells : ∀ (j : Nat) x, xs[j]? = some x → w.cell? ⟨bk, o + j, none⟩ = some (.string x)) (hbk : bk < w.heap.size) (hN : xs.length ≤ 140737488355328) (hcap : xs.length ≤ c) (hlen : (Lib.join (xs.map (·.data.toList)) sep.data.toList).length ≤ 140737488355328) :
    Calls Tryd.prog 39 #[.slice (some ⟨bk, o, none⟩) xs.length c, .string sep] w fun e w' => e = .returned (.string ⟨(Lib.join (xs.map (·.data.toList)) sep.data.toList).toArray⟩) ∧ Below w.heap.size w w' := Any.strings_Join Tryd.lays156 Tryd.Builder_Extra_156 bk o c xs sep w hcells hbk hN hcap hlen
end Go.Proofs.YtdehpgdffafebaaDoor
