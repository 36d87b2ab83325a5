/- Two types that may be, without holes, of a class whose parameters are unlike names, have one text just if they are the same. No program is named here. Conditions: as said. -/
import Derived.Test.YtemhfbfodpeeaaaDoorKd
namespace Go.Proofs.YtemhfbfodpeeaaaDoor
open Go

theorem split_eq : ∀ (a b : List UInt8) (x y : UInt8) (r q : List UInt8), (∀ c ∈ a, Wd.okB c = true) → (∀ c ∈ b, Wd.okB c = true) → Wd.okB x = false → Wd.okB y = false → a ++ x :: r = b ++ y :: q → a = b ∧ x = y ∧ r = q
  | [], [], x, y, r, q, _, _, _, _, h => by
    simp only [List.nil_append, List.cons.injEq] at h
    exact ⟨rfl, h.1, h.2⟩
  | [], b :: bs, x, y, r, q, _, hb, hx, _, h => by
    simp only [List.nil_append, List.cons_append, List.cons.injEq] at h
    have := hb b (by simp)
    rw [← h.1, hx] at this
    cases this
  | a :: as, [], x, y, r, q, ha, _, _, hy, h => by
    simp only [List.nil_append, List.cons_append, List.cons.injEq] at h
    have := ha a (by simp)
    rw [h.1, hy] at this
    cases this
  | a :: as, b :: bs, x, y, r, q, ha, hb, hx, hy, h => by
    simp only [List.cons_append, List.cons.injEq] at h
    obtain ⟨h1, h2, h3⟩ := split_eq as bs x y r q (fun c hc => ha c (by simp [hc])) (fun c hc => hb c (by simp [hc])) hx hy h.2
    exact ⟨by rw [h.1, h1], h2, h3⟩

/-- The parameters are unlike names. -/
def Unlike (ps : List ByteArray) : Prop := (∀ i, (h : i < ps.length) → Wd.nameB ps[i] = true) ∧ ∀ i j, (hi : i < ps.length) → (hj : j < i) → ps[j]'(by omega) ≠ ps[i]
/-- An owner that may be, and is no hole. -/
def Good (o : Ow) (ps : List ByteArray) : Prop := o.right ps.length = true ∧ ¬ o.kind = 7

theorem name_ok_all {s : ByteArray} (h : Wd.nameB s = true) : ∀ c ∈ s.data.toList, Wd.okB c = true := by
  unfold Wd.nameB at h
  simp only [Bool.and_eq_true, List.all_eq_true] at h
  exact h.1.2
theorem good_ways {o : Ow} {ps : List ByteArray} (h : Good o ps) : (∃ j, ∃ hj : j < ps.length, o = ⟨3, (j : Int) + 1⟩ ∧ o.text ps = ps[j]) ∨ (o.n = 0 ∧ (o.kind = 1 ∨ o.kind = 2 ∨ o.kind = 4 ∨ o.kind = 5 ∨ o.kind = 6) ∧ o.text ps = Ow.word o.kind) := by
  obtain ⟨k, n⟩ := o
  obtain ⟨h1, h7⟩ := h
  by_cases h3 : k = 3
  · subst h3
    have hn : 1 ≤ n ∧ n ≤ ps.length := by unfold Ow.right at h1; simpa using h1
    refine .inl ⟨(n - 1).toNat, by omega, ?_, ?_⟩
    · congr 1; omega
    · exact Ow.text_par _ (by omega) (by omega)
  · right
    have ht := Ow.text_word h1 h3
    unfold Ow.right at h1
    simp only at h1 h7
    rw [if_neg h3, if_neg h7] at h1
    have := of_decide_eq_true h1
    exact ⟨this.1, this.2, ht⟩
theorem word_okB {k : Int} (h : k = 1 ∨ k = 2 ∨ k = 4 ∨ k = 5 ∨ k = 6) : ∀ c ∈ (Ow.word k).data.toList, Wd.okB c = true := by
  rcases h with rfl | rfl | rfl | rfl | rfl <;> decide
theorem word_no_name {k : Int} (h : k = 1 ∨ k = 2 ∨ k = 4 ∨ k = 5 ∨ k = 6) : Wd.nameB (Ow.word k) = false := by
  rcases h with rfl | rfl | rfl | rfl | rfl <;> decide
theorem word_inj {k j : Int} (h : k = 1 ∨ k = 2 ∨ k = 4 ∨ k = 5 ∨ k = 6) (g : j = 1 ∨ j = 2 ∨ j = 4 ∨ j = 5 ∨ j = 6) (e : Ow.word k = Ow.word j) : k = j := by
  rcases h with rfl | rfl | rfl | rfl | rfl <;> rcases g with rfl | rfl | rfl | rfl | rfl <;> first | rfl | (exact absurd e (by decide))
theorem good_okB {o : Ow} {ps : List ByteArray} (h : Good o ps) (hu : Unlike ps) : ∀ c ∈ (o.text ps).data.toList, Wd.okB c = true := by
  rcases good_ways h with ⟨j, hj, _, e⟩ | ⟨_, hk, e⟩
  · rw [e]; exact name_ok_all (hu.1 j hj)
  · rw [e]; exact word_okB hk
theorem good_inj {o q : Ow} {ps : List ByteArray} (h : Good o ps) (g : Good q ps) (hu : Unlike ps) (e : o.text ps = q.text ps) : o = q := by
  rcases good_ways h with ⟨j, hj, eo, e1⟩ | ⟨n1, k1, e1⟩
  · rcases good_ways g with ⟨i, hi, eq, e2⟩ | ⟨n2, k2, e2⟩
    · have hij : ps[j] = ps[i] := by rw [← e1, ← e2, e]
      have : j = i := by
        rcases Nat.lt_trichotomy j i with hl | hl | hl
        · exact absurd hij (hu.2 i j hi hl)
        · exact hl
        · exact absurd hij.symm (hu.2 j i hj hl)
      subst this
      rw [eo, eq]
    · have := hu.1 j hj
      rw [← e1, e, e2, word_no_name k2] at this
      cases this
  · rcases good_ways g with ⟨i, hi, eq, e2⟩ | ⟨n2, k2, e2⟩
    · have := hu.1 i hi
      rw [← e2, ← e, e1, word_no_name k1] at this
      cases this
    · have hk := word_inj k1 k2 (by rw [← e1, ← e2, e])
      obtain ⟨ok, on⟩ := o
      obtain ⟨qk, qn⟩ := q
      simp only at hk n1 n2
      rw [hk, n1, n2]
theorem text_data_inj {a b : ByteArray} (h : a.data.toList = b.data.toList) : a = b := by
  cases a with | mk a => cases b with | mk b => exact congrArg ByteArray.mk (Array.toList_inj.1 h)

/-! ### Types -/
/-- What is known of an object's type that may be and has no holes. -/
structure Obj2 (t : Ty) (ps : List ByteArray) (m : Nat) : Prop where
  kind : t.kind = 2
  name : Wd.nameB t.cls = true
  n : t.n = m
  m3 : m ≤ 3
  good : ∀ i, i ≤ m → Good (t.own i) ps
  zero : ∀ i, i < 4 → m < i → t.own i = ⟨0, 0⟩
theorem obj2_of {t : Ty} {ps : List ByteArray} (hr : t.right ps.length = true) (h2 : t.kind = 2) (hh : t.holes = 0) : ∃ m, Obj2 t ps m := by
  rw [Ty.right_obj h2] at hr
  simp only [Bool.and_eq_true, decide_eq_true_eq] at hr
  obtain ⟨⟨⟨hn, h0⟩, h3⟩, hok⟩ := hr
  have hbad := Ty.bad_of_okOw hok
  have hc : t.cnt = t.n.toNat := by unfold Ty.cnt; rw [if_neg (by omega), if_neg (by omega)]
  refine ⟨t.n.toNat, h2, hn, by omega, by omega, fun i hi => ?_, fun i hi hm => ?_⟩
  · have hb := hbad i (by omega)
    unfold Ty.bad at hb
    rw [if_pos (by omega)] at hb
    simp only [Bool.or_eq_false_iff, Bool.not_eq_false'] at hb
    refine ⟨hb.1, fun h7 => ?_⟩
    have hl : i < t.owners.length := by rw [Ty.owners_len h2, hc]; omega
    have hm : t.own i ∈ t.owners := by rw [← Ty.owners_at h2 i hl]; exact List.getElem_mem hl
    have : t.own i ∈ t.owners.filter fun o => decide (o.kind = 7) := List.mem_filter.2 ⟨hm, by simp [h7]⟩
    unfold Ty.holes at hh
    rw [List.eq_nil_of_length_eq_zero hh] at this
    cases this
  · have hb := hbad i hi
    unfold Ty.bad at hb
    rw [if_neg (by omega)] at hb
    unfold Ty.isZero at hb
    simp at hb
    cases he : t.own i with | mk a b => rw [he] at hb; simp at hb; rw [hb.1, hb.2]
theorem obj2_txt {t : Ty} {ps : List ByteArray} {m : Nat} (h : Obj2 t ps m) (hr : t.right ps.length = true) :
    t.txt ps = (t.o0.text ps).data.toList ++ 32 :: (t.cls.data.toList ++ t.behind ps) := by
  rw [Ty.txt_obj hr h.kind]
  have h7 : ¬ t.o0.kind = 7 := (h.good 0 (by omega)).2
  unfold Ty.ahead
  rw [if_neg h7]
  simp
theorem obj2_cnt {t : Ty} {ps : List ByteArray} {m : Nat} (h : Obj2 t ps m) : t.cnt = m := by
  have := h.n; have := h.m3
  unfold Ty.cnt; rw [if_neg (by omega), if_neg (by omega)]; omega
theorem behind0 {t : Ty} {ps : List ByteArray} (h : Obj2 t ps 0) : t.behind ps = [] := by
  unfold Ty.behind Ty.others; rw [obj2_cnt h]; rfl
theorem behind1 {t : Ty} {ps : List ByteArray} (h : Obj2 t ps 1) : t.behind ps = 60 :: ((t.o1.text ps).data.toList ++ [62]) := by
  unfold Ty.behind Ty.others; rw [obj2_cnt h]; simp [Lib.join_one]
theorem behind2 {t : Ty} {ps : List ByteArray} (h : Obj2 t ps 2) : t.behind ps = 60 :: ((t.o1.text ps).data.toList ++ 44 :: 32 :: ((t.o2.text ps).data.toList ++ [62])) := by
  unfold Ty.behind Ty.others; rw [obj2_cnt h]; simp [Lib.join_cons, Lib.joinTail]
theorem behind3 {t : Ty} {ps : List ByteArray} (h : Obj2 t ps 3) : t.behind ps = 60 :: ((t.o1.text ps).data.toList ++ 44 :: 32 :: ((t.o2.text ps).data.toList ++ 44 :: 32 :: ((t.o3.text ps).data.toList ++ [62]))) := by
  unfold Ty.behind Ty.others; rw [obj2_cnt h]; simp [Lib.join_cons, Lib.joinTail]

theorem own_eq {o q : Ow} {ps : List ByteArray} (h : Good o ps) (g : Good q ps) (hu : Unlike ps) (e : (o.text ps).data.toList = (q.text ps).data.toList) : o = q := good_inj h g hu (text_data_inj e)

theorem apart_obj {t u : Ty} {ps : List ByteArray} {m k : Nat} (ht : Obj2 t ps m) (hu : Obj2 u ps k) (hrt : t.right ps.length = true) (hru : u.right ps.length = true) (hx : Unlike ps) (e : t.txt ps = u.txt ps) : t = u := by
  rw [obj2_txt ht hrt, obj2_txt hu hru] at e
  have n32 : Wd.okB 32 = false := by decide
  have n60 : Wd.okB 60 = false := by decide
  have n62 : Wd.okB 62 = false := by decide
  have n44 : Wd.okB 44 = false := by decide
  have n0 : Wd.okB 0 = false := by decide
  have gt := ht.good
  have gu := hu.good
  obtain ⟨e0, _, e⟩ := split_eq _ _ _ _ _ _ (good_okB (gt 0 (by omega)) hx) (good_okB (gu 0 (by omega)) hx) n32 n32 e
  have h0 : t.o0 = u.o0 := own_eq (gt 0 (by omega)) (gu 0 (by omega)) hx e0
  have e := congrArg (fun l => l ++ [(0 : UInt8)]) e
  simp only [List.append_assoc] at e
  have ct := name_ok_all ht.name
  have cu := name_ok_all hu.name
  have hk := ht.kind.trans hu.kind.symm
  have nt := ht.n
  have nu := hu.n
  have zt := ht.zero
  have zu := hu.zero
  obtain ⟨tk, tc, tn, t0, t1, t2, t3⟩ := t
  obtain ⟨uk, uc, un, u0, u1, u2, u3⟩ := u
  simp only at h0 e e0 ct cu hk nt nu
  subst h0
  have fin : tc.data.toList = uc.data.toList → m = k → t1 = u1 → t2 = u2 → t3 = u3 → (⟨tk, tc, tn, t0, t1, t2, t3⟩ : Ty) = ⟨uk, uc, un, t0, u1, u2, u3⟩ := by
    intro a1 a2 a3 a4 a5
    rw [text_data_inj a1, a3, a4, a5, nt, nu, a2, hk]
  have m3 := ht.m3
  have k3 := hu.m3
  rcases (show m = 0 ∨ m = 1 ∨ m = 2 ∨ m = 3 by omega) with rfl | rfl | rfl | rfl <;>
  rcases (show k = 0 ∨ k = 1 ∨ k = 2 ∨ k = 3 by omega) with rfl | rfl | rfl | rfl
  · rw [behind0 ht, behind0 hu] at e
    simp only [List.nil_append] at e
    obtain ⟨a, _, _⟩ := split_eq _ _ _ _ _ _ ct cu n0 n0 e
    exact fin a rfl ((zt 1 (by omega) (by omega)).trans (zu 1 (by omega) (by omega)).symm) ((zt 2 (by omega) (by omega)).trans (zu 2 (by omega) (by omega)).symm) ((zt 3 (by omega) (by omega)).trans (zu 3 (by omega) (by omega)).symm)
  · rw [behind0 ht, behind1 hu] at e
    simp only [List.append_assoc, List.cons_append, List.nil_append] at e
    obtain ⟨_, a, _⟩ := split_eq _ _ _ _ _ _ ct cu n0 n60 e
    exact absurd a (by decide)
  · rw [behind0 ht, behind2 hu] at e
    simp only [List.append_assoc, List.cons_append, List.nil_append] at e
    obtain ⟨_, a, _⟩ := split_eq _ _ _ _ _ _ ct cu n0 n60 e
    exact absurd a (by decide)
  · rw [behind0 ht, behind3 hu] at e
    simp only [List.append_assoc, List.cons_append, List.nil_append] at e
    obtain ⟨_, a, _⟩ := split_eq _ _ _ _ _ _ ct cu n0 n60 e
    exact absurd a (by decide)
  · rw [behind1 ht, behind0 hu] at e
    simp only [List.append_assoc, List.cons_append, List.nil_append] at e
    obtain ⟨_, a, _⟩ := split_eq _ _ _ _ _ _ ct cu n60 n0 e
    exact absurd a (by decide)
  · rw [behind1 ht, behind1 hu] at e
    simp only [List.append_assoc, List.cons_append, List.nil_append] at e
    obtain ⟨a, _, e⟩ := split_eq _ _ _ _ _ _ ct cu n60 n60 e
    obtain ⟨b, _, _⟩ := split_eq _ _ _ _ _ _ (good_okB (gt 1 (by omega)) hx) (good_okB (gu 1 (by omega)) hx) n62 n62 e
    exact fin a rfl (own_eq (gt 1 (by omega)) (gu 1 (by omega)) hx b) ((zt 2 (by omega) (by omega)).trans (zu 2 (by omega) (by omega)).symm) ((zt 3 (by omega) (by omega)).trans (zu 3 (by omega) (by omega)).symm)
  · rw [behind1 ht, behind2 hu] at e
    simp only [List.append_assoc, List.cons_append, List.nil_append] at e
    obtain ⟨_, _, e⟩ := split_eq _ _ _ _ _ _ ct cu n60 n60 e
    obtain ⟨_, b, _⟩ := split_eq _ _ _ _ _ _ (good_okB (gt 1 (by omega)) hx) (good_okB (gu 1 (by omega)) hx) n62 n44 e
    exact absurd b (by decide)
  · rw [behind1 ht, behind3 hu] at e
    simp only [List.append_assoc, List.cons_append, List.nil_append] at e
    obtain ⟨_, _, e⟩ := split_eq _ _ _ _ _ _ ct cu n60 n60 e
    obtain ⟨_, b, _⟩ := split_eq _ _ _ _ _ _ (good_okB (gt 1 (by omega)) hx) (good_okB (gu 1 (by omega)) hx) n62 n44 e
    exact absurd b (by decide)
  · rw [behind2 ht, behind0 hu] at e
    simp only [List.append_assoc, List.cons_append, List.nil_append] at e
    obtain ⟨_, a, _⟩ := split_eq _ _ _ _ _ _ ct cu n60 n0 e
    exact absurd a (by decide)
  · rw [behind2 ht, behind1 hu] at e
    simp only [List.append_assoc, List.cons_append, List.nil_append] at e
    obtain ⟨_, _, e⟩ := split_eq _ _ _ _ _ _ ct cu n60 n60 e
    obtain ⟨_, b, _⟩ := split_eq _ _ _ _ _ _ (good_okB (gt 1 (by omega)) hx) (good_okB (gu 1 (by omega)) hx) n44 n62 e
    exact absurd b (by decide)
  · rw [behind2 ht, behind2 hu] at e
    simp only [List.append_assoc, List.cons_append, List.nil_append] at e
    obtain ⟨a, _, e⟩ := split_eq _ _ _ _ _ _ ct cu n60 n60 e
    obtain ⟨b, _, e⟩ := split_eq _ _ _ _ _ _ (good_okB (gt 1 (by omega)) hx) (good_okB (gu 1 (by omega)) hx) n44 n44 e
    simp only [List.cons.injEq, true_and] at e
    obtain ⟨d, _, _⟩ := split_eq _ _ _ _ _ _ (good_okB (gt 2 (by omega)) hx) (good_okB (gu 2 (by omega)) hx) n62 n62 e
    exact fin a rfl (own_eq (gt 1 (by omega)) (gu 1 (by omega)) hx b) (own_eq (gt 2 (by omega)) (gu 2 (by omega)) hx d) ((zt 3 (by omega) (by omega)).trans (zu 3 (by omega) (by omega)).symm)
  · rw [behind2 ht, behind3 hu] at e
    simp only [List.append_assoc, List.cons_append, List.nil_append] at e
    obtain ⟨_, _, e⟩ := split_eq _ _ _ _ _ _ ct cu n60 n60 e
    obtain ⟨_, _, e⟩ := split_eq _ _ _ _ _ _ (good_okB (gt 1 (by omega)) hx) (good_okB (gu 1 (by omega)) hx) n44 n44 e
    simp only [List.cons.injEq, true_and] at e
    obtain ⟨_, b, _⟩ := split_eq _ _ _ _ _ _ (good_okB (gt 2 (by omega)) hx) (good_okB (gu 2 (by omega)) hx) n62 n44 e
    exact absurd b (by decide)
  · rw [behind3 ht, behind0 hu] at e
    simp only [List.append_assoc, List.cons_append, List.nil_append] at e
    obtain ⟨_, a, _⟩ := split_eq _ _ _ _ _ _ ct cu n60 n0 e
    exact absurd a (by decide)
  · rw [behind3 ht, behind1 hu] at e
    simp only [List.append_assoc, List.cons_append, List.nil_append] at e
    obtain ⟨_, _, e⟩ := split_eq _ _ _ _ _ _ ct cu n60 n60 e
    obtain ⟨_, b, _⟩ := split_eq _ _ _ _ _ _ (good_okB (gt 1 (by omega)) hx) (good_okB (gu 1 (by omega)) hx) n44 n62 e
    exact absurd b (by decide)
  · rw [behind3 ht, behind2 hu] at e
    simp only [List.append_assoc, List.cons_append, List.nil_append] at e
    obtain ⟨_, _, e⟩ := split_eq _ _ _ _ _ _ ct cu n60 n60 e
    obtain ⟨_, _, e⟩ := split_eq _ _ _ _ _ _ (good_okB (gt 1 (by omega)) hx) (good_okB (gu 1 (by omega)) hx) n44 n44 e
    simp only [List.cons.injEq, true_and] at e
    obtain ⟨_, b, _⟩ := split_eq _ _ _ _ _ _ (good_okB (gt 2 (by omega)) hx) (good_okB (gu 2 (by omega)) hx) n44 n62 e
    exact absurd b (by decide)
  · rw [behind3 ht, behind3 hu] at e
    simp only [List.append_assoc, List.cons_append, List.nil_append] at e
    obtain ⟨a, _, e⟩ := split_eq _ _ _ _ _ _ ct cu n60 n60 e
    obtain ⟨b, _, e⟩ := split_eq _ _ _ _ _ _ (good_okB (gt 1 (by omega)) hx) (good_okB (gu 1 (by omega)) hx) n44 n44 e
    simp only [List.cons.injEq, true_and] at e
    obtain ⟨d, _, e⟩ := split_eq _ _ _ _ _ _ (good_okB (gt 2 (by omega)) hx) (good_okB (gu 2 (by omega)) hx) n44 n44 e
    simp only [List.cons.injEq, true_and] at e
    obtain ⟨f, _, _⟩ := split_eq _ _ _ _ _ _ (good_okB (gt 3 (by omega)) hx) (good_okB (gu 3 (by omega)) hx) n62 n62 e
    exact fin a rfl (own_eq (gt 1 (by omega)) (gu 1 (by omega)) hx b) (own_eq (gt 2 (by omega)) (gu 2 (by omega)) hx d) (own_eq (gt 3 (by omega)) (gu 3 (by omega)) hx f)

theorem bare_eq {t : Ty} (h : t.bare = true) : t = ⟨t.kind, ⟨#[]⟩, 0, ⟨0, 0⟩, ⟨0, 0⟩, ⟨0, 0⟩, ⟨0, 0⟩⟩ := by
  unfold Ty.bare Ty.isZero at h
  simp only [Bool.and_eq_true, decide_eq_true_eq] at h
  obtain ⟨⟨⟨⟨⟨h1, h2⟩, h3, h4⟩, h5, h6⟩, h7, h8⟩, h9, h10⟩ := h
  obtain ⟨k, c, n, ⟨a0, b0⟩, ⟨a1, b1⟩, ⟨a2, b2⟩, ⟨a3, b3⟩⟩ := t
  simp only at h1 h2 h3 h4 h5 h6 h7 h8 h9 h10 ⊢
  subst h1 h2 h3 h4 h5 h6 h7 h8 h9 h10
  rfl
theorem rkinds {t : Ty} {p : Int} (h : t.right p = true) : t.kind = 0 ∨ t.kind = 1 ∨ t.kind = 2 := by
  rcases (show t.kind = 0 ∨ t.kind = 1 ∨ t.kind = 2 ∨ (¬ t.kind = 0 ∧ ¬ t.kind = 1 ∧ ¬ t.kind = 2) by omega) with e | e | e | ⟨e0, e1, e2⟩
  · exact .inl e
  · exact .inr (.inl e)
  · exact .inr (.inr e)
  · rw [Ty.right_other e0 e1 e2] at h; cases h
theorem blank_in {t : Ty} {ps : List ByteArray} {m : Nat} (h : Obj2 t ps m) (hr : t.right ps.length = true) : (32 : UInt8) ∈ t.txt ps := by rw [obj2_txt h hr]; simp
theorem apart {t u : Ty} {ps : List ByteArray} (hrt : t.right ps.length = true) (hru : u.right ps.length = true) (ht : t.holes = 0) (hu : u.holes = 0) (hx : Unlike ps) (e : t.txt ps = u.txt ps) : t = u := by
  rcases rkinds hrt with a | a | a <;> rcases rkinds hru with b | b | b
  · have h1 := bare_eq ((Ty.right_bare (.inl a)).symm.trans hrt)
    have h2 := bare_eq ((Ty.right_bare (.inl b)).symm.trans hru)
    rw [h1, h2, a, b]
  · rw [Ty.txt_void hrt a, Ty.txt_int hru b] at e; exact absurd e (by decide)
  · obtain ⟨m, hm⟩ := obj2_of hru b hu
    have := blank_in hm hru
    rw [← e, Ty.txt_void hrt a] at this
    exact absurd this (by decide)
  · rw [Ty.txt_int hrt a, Ty.txt_void hru b] at e; exact absurd e (by decide)
  · have h1 := bare_eq ((Ty.right_bare (.inr a)).symm.trans hrt)
    have h2 := bare_eq ((Ty.right_bare (.inr b)).symm.trans hru)
    rw [h1, h2, a, b]
  · obtain ⟨m, hm⟩ := obj2_of hru b hu
    have := blank_in hm hru
    rw [← e, Ty.txt_int hrt a] at this
    exact absurd this (by decide)
  · obtain ⟨m, hm⟩ := obj2_of hrt a ht
    have := blank_in hm hrt
    rw [e, Ty.txt_void hru b] at this
    exact absurd this (by decide)
  · obtain ⟨m, hm⟩ := obj2_of hrt a ht
    have := blank_in hm hrt
    rw [e, Ty.txt_int hru b] at this
    exact absurd this (by decide)
  · obtain ⟨m, hm⟩ := obj2_of hrt a ht
    obtain ⟨k, hk⟩ := obj2_of hru b hu
    exact apart_obj hm hk hrt hru hx e
theorem txt_some {t : Ty} {ps : List ByteArray} (hrt : t.right ps.length = true) (ht : t.holes = 0) : t.txt ps ≠ [] := by
  intro e
  rcases rkinds hrt with a | a | a
  · rw [Ty.txt_void hrt a] at e; cases e
  · rw [Ty.txt_int hrt a] at e; cases e
  · obtain ⟨m, hm⟩ := obj2_of hrt a ht
    have := blank_in hm hrt
    rw [e] at this
    cases this
end Go.Proofs.YtemhfbfodpeeaaaDoor
