/- The first law of layer 7 returns true for every input. Conditions: none. -/
import Derived.ChangeKeysEq
import Derived.Test.YtbcgooofelnkoaaWk
namespace Go.Proofs.Ytbcgooofelnkoaa
open Go.RowKit
set_option linter.unusedVariables false

theorem eq_own (a b c d : Int) (W : World) : (Op.equalIn 9998 33 (.agg #[.int .i64 a, .int .i64 b]) (.agg #[.int .i64 c, .int .i64 d])).run Try.prog W = .ok (a == c && b == d) W := by
  simp [go_sem]
  by_cases h : a = c <;> by_cases g : b = d <;> simp [h, g]
theorem info_own : ∃ i, Try.prog.info? 33 = some i := Option.isSome_iff_exists.1 (show (Try.prog.info? 33).isSome = true by kernel_rfl)
theorem cells_own : Try.prog.cellsOf 33 = 2 := by kernel_rfl
theorem eq_four (n : Nat) (a0 a1 a2 a3 a4 a5 a6 a7 : Int) (W : World) :
    (Op.equalIn 9999 34 (.agg #[.int .i64 a0, .int .i64 a1, .int .i64 a2, .int .i64 a3, .int .i64 a4, .int .i64 a5, .int .i64 a6, .int .i64 a7]) (.agg #[.int .i64 a0, .int .i64 a1, .int .i64 a2, .int .i64 a3, .int .i64 a4, .int .i64 a5, .int .i64 a6, .int .i64 a7])).run Try.prog W
      = .ok true W := by
  obtain ⟨i, hi⟩ := info_own
  rw [show (9999 : Nat) = 9998 + 1 from rfl, run_equalIn_array W 9998 _ _ Try.underlying34 hi, cells_own, show List.range 4 = [0, 1, 2, 3] from rfl]
  simp [Op.eqItems, go_sem]

theorem refOf_big (s : ByteArray) (h : 16384 < s.size) (w : World) : Calls Try.prog 5 #[.string s] w fun e w' => e = .returned (.tuple #[.slice none 0 0, .agg #[.int .i64 6, .int .i64 0]]) ∧ Below w.heap.size w w' := by
  have hb := boxed w (.cells #[.int .i64 6, .int .i64 0] 28)
  have hn := heap_new w (.cells #[.int .i64 6, .int .i64 0] 28)
  have h1 : (s.size : Int) > 16384 := by omega
  go_enter Try.func5, Try.ntmps5
  go_wp2_with fail
  obtain ⟨W, hW⟩ : ∃ W, W = w.alloc (.cells #[.int .i64 6, .int .i64 0] 28) := ⟨_, rfl⟩
  rw [← hW] at hb hn ⊢
  obtain ⟨r0, r1⟩ := row2 hn
  exact bodyPost_ret (v := .tuple #[.slice none 0 0, .agg #[.int .i64 6, .int .i64 0]]) (by simp [results, Try.results5, go_sem, r0, r1]) rfl ⟨rfl, hb⟩
/-- What reading a text hands back: always a slice, and a fault. -/
theorem refOf_all (s : ByteArray) (w : World) : Calls Try.prog 5 #[.string s] w fun e w' => (∃ v x y, e = .returned (.tuple #[v, .agg #[.int .i64 x, .int .i64 y]])) ∧ Below w.heap.size w w' := by
  by_cases h : 16384 < s.size
  · exact (refOf_big s h w).mono fun e w' ⟨h1, h2⟩ => ⟨⟨_, _, _, h1⟩, h2⟩
  · exact (refOf_any s (by omega) w).mono fun e w' hp => by
      cases hr : Tk.ofL s.data.toList with
      | ok r =>
        obtain ⟨g, c, he, _, _, _, _, _, hb⟩ := of_ok hp hr
        exact ⟨⟨_, _, _, he⟩, hb⟩
      | err x a =>
        obtain ⟨he, hb⟩ := of_err hp hr
        exact ⟨⟨_, _, _, he⟩, hb⟩

/-- What a reading comes to: a type, the place behind, what is wrong, and where. -/
def tyR : Rz Ty → Ty | .ok t _ => t | .err _ _ => ty0
def nxR {α : Type} : Rz α → Int | .ok _ a => a | .err _ _ => 0
def erR {α : Type} : Rz α → Int | .ok _ _ => 0 | .err e _ => e
def poR {α : Type} : Rz α → Int | .ok _ _ => 0 | .err _ p => p
def owR : Rz (List Ow) → List Ow | .ok y _ => y | .err _ _ => []
theorem rd_ty {r : Rz Ty} {w w' : World} {x : Ending} (h : RdP tyZ tyV r w x w') : x = .returned (.tuple #[tyV (tyR r), .int .i64 (nxR r), fV (erR r) (poR r)]) ∧ Below w.heap.size w w' := by
  obtain ⟨hb, hx⟩ := h
  cases r <;> exact ⟨hx, hb⟩
theorem rt_ty {r : Rz Ty} {w w' : World} {x : Ending} (h : RtP r w x w') : x = .returned (gotV (.slice none 0 0) (tyR r) ⟨#[]⟩ ty0 0 (nxR r) (erR r) (poR r)) ∧ Below w.heap.size w w' := by
  obtain ⟨hb, hx⟩ := h
  cases r <;> exact ⟨hx, hb⟩
theorem ro_ow {r : Rz (List Ow)} {w w' : World} {x : Ending} (h : RoP r w x w') : ∃ v, x = .returned (.tuple #[v, .int .i64 (nxR r), fV (erR r) (poR r)]) ∧ Below w.heap.size w w' ∧ w'.ownsRow w.heap.size 33 2 v (owR r).length (ocells (owR r)) := by
  obtain ⟨hb, hx⟩ := h
  cases r with
  | ok y a =>
    obtain ⟨v, hx, ho⟩ := hx
    exact ⟨v, hx, hb, ho⟩
  | err e p => exact ⟨_, hx, hb, World.ownsRow_nil _ _ _ _⟩
theorem rw_ow {r : Rz (List Ow)} {w w' : World} {x : Ending} (h : RwP r w x w') : ∃ v, x = .returned (gotV v ty0 ⟨#[]⟩ ty0 0 (nxR r) (erR r) (poR r)) ∧ Below w.heap.size w w' ∧ w'.ownsRow w.heap.size 33 2 v (owR r).length (ocells (owR r)) := by
  obtain ⟨hb, hx⟩ := h
  cases r with
  | ok y a =>
    obtain ⟨v, hx, ho⟩ := hx
    exact ⟨v, hx, hb, ho⟩
  | err e p => exact ⟨_, hx, hb, World.ownsRow_nil _ _ _ _⟩
theorem ownR_small {l : List Gt} {ps : List ByteArray} {a : Int} {r : Rz (List Ow)} {y : List Ow} (h : r = ownersP l ps a) (hy : y = owR r) : y.length ≤ 3 := by
  subst hy
  cases hr : ownersP l ps a with
  | ok y b =>
    rw [h, hr]
    exact (ownersP_len hr).2
  | err e p =>
    rw [h, hr]
    exact Nat.zero_le _
/-- A slice in memory of the call's own, as it is read. -/
theorem own_read {base n : Nat} {v : Value} {y : List Ow} {w : World} (h : w.ownsRow base 33 2 v y.length (ocells y)) (hn : n = y.length) : ∃ A c, v = .slice A n c ∧ n ≤ c ∧ ∀ k, k < n → ∃ b, A = some ⟨b, 0, none⟩ ∧ b < w.heap.size ∧ w.cell? ⟨b, k * 2, none⟩ = some (.int .i64 (y.getD k ⟨0, 0⟩).kind) ∧ w.cell? ⟨b, k * 2 + 1, none⟩ = some (.int .i64 (y.getD k ⟨0, 0⟩).n) := by
  subst hn
  rcases h.2 with ⟨rfl, h0⟩ | ⟨g, cap, cur, rfl, hb, hg, hc, _, _, _⟩
  · exact ⟨none, 0, by rw [h0], by omega, fun k hk => by omega⟩
  · refine ⟨_, cap, rfl, hc, fun k hk => ⟨g, rfl, heap_lt hg, ?_⟩⟩
    obtain ⟨h1, h2⟩ := ocells_at hk
    have k1 := h.cells (g := g) rfl _ _ h1
    have k2 := h.cells (g := g) rfl _ _ h2
    rw [Addr.add_mid, Nat.zero_add] at k1 k2
    exact ⟨k1, k2⟩

set_option maxRecDepth 100000 in
set_option maxHeartbeats 1000000 in
theorem law_big (s : ByteArray) (at0 : Int) (PA : Option Addr) (ps : List ByteArray) (pc : Nat) (f : Bool) (w : World) (hp : RS w w.heap.size PA ps) (hpc : ps.length ≤ pc) (hpm : pc ≤ maxLen) (hlow : -9223372036854775808 ≤ at0) (hhigh : at0 ≤ 9223372036854775807) (h : 300 < s.size) : Calls Try.prog 3 #[.agg #[.string s, .int .i64 at0], .slice PA ps.length pc, .bool f] w fun e w' => e = .returned (.bool true) ∧ Below w.heap.size w w' := by
  go_enter Try.func3, Try.ntmps3
  go_upto_region 1 with fail
  have hq := heap_new w (.cells #[.string s, .int .i64 at0] 23)
  have hb0 := boxed w (.cells #[.string s, .int .i64 at0] 23)
  obtain ⟨W0, hW0⟩ : ∃ W, W = w.alloc (.cells #[.string s, .int .i64 at0] 23) := ⟨_, rfl⟩
  rw [← hW0] at hq hb0 ⊢
  clear hW0
  obtain ⟨a0, a1⟩ := row2 hq
  have HQ := Lib.hid hq
  have HB0 := Lib.hid hb0
  clear hq hb0
  go_wp2_with fail
  refine (refOf_all s _).mono ?_
  rintro e w1 ⟨⟨v, x, y, rfl⟩, hb1⟩
  have HQ1 := Lib.hid ((hb1.block _ (heap_lt HQ.out)).trans HQ.out)
  have HB1 := Lib.hid (HB0.out.trans (hb1.mono HB0.out.size))
  clear a0 a1 hb1
  have hb2 := boxed w1 (.cells #[.int .i64 x, .int .i64 y] 28)
  have hn2 := heap_new w1 (.cells #[.int .i64 x, .int .i64 y] 28)
  have hl1 := heap_lt HQ1.out
  obtain ⟨W2, hW2⟩ : ∃ W, W = w1.alloc (.cells #[.int .i64 x, .int .i64 y] 28) := ⟨_, rfl⟩
  go_upto_region 2 with fail
  rw [← hW2] at hb2 hn2 ⊢
  clear hW2
  obtain ⟨a0, a1⟩ := row2 ((hb2.block _ hl1).trans HQ1.out)
  obtain ⟨b0, b1⟩ := row2 hn2
  have HB2 := Lib.hid (HB1.out.trans (hb2.mono HB1.out.size))
  have e1 : decide (300 < (s.size : Int)) = true := by simp; omega
  clear hb2 hn2
  go_wp2_with fail
  refine (awake_any _).mono ?_
  rintro e w3 ⟨rfl, hb3⟩
  go_wp2_with fail
  go_ret
  exact ⟨rfl, HB2.out.trans (hb3.mono HB2.out.size)⟩

set_option maxRecDepth 100000 in
set_option maxHeartbeats 1000000 in
theorem law_err (s : ByteArray) (at0 : Int) (PA : Option Addr) (ps : List ByteArray) (pc : Nat) (f : Bool) (w : World) (hp : RS w w.heap.size PA ps) (hpc : ps.length ≤ pc) (hpm : pc ≤ maxLen) (hlow : -9223372036854775808 ≤ at0) (hhigh : at0 ≤ 9223372036854775807) (h : s.size ≤ 300) (x a : Nat) (hr : Tk.ofL s.data.toList = .err x a) : Calls Try.prog 3 #[.agg #[.string s, .int .i64 at0], .slice PA ps.length pc, .bool f] w fun e w' => e = .returned (.bool true) ∧ Below w.heap.size w w' := by
  have hx0 : ((x : Int) != 0) = true := by
    have := Tk.ofL_err (s := s.data.toList) (by show s.size ≤ 16384; omega) hr
    simp
    omega
  have HR := Lib.hid hr
  clear hr
  go_enter Try.func3, Try.ntmps3
  go_upto_region 1 with fail
  have hq := heap_new w (.cells #[.string s, .int .i64 at0] 23)
  have hb0 := boxed w (.cells #[.string s, .int .i64 at0] 23)
  obtain ⟨W0, hW0⟩ : ∃ W, W = w.alloc (.cells #[.string s, .int .i64 at0] 23) := ⟨_, rfl⟩
  rw [← hW0] at hq hb0 ⊢
  clear hW0
  obtain ⟨a0, a1⟩ := row2 hq
  have HQ := Lib.hid hq
  have HB0 := Lib.hid hb0
  clear hq hb0
  go_wp2_with fail
  refine (refOf_any s (by omega) _).mono ?_
  rintro e w1 hp1
  obtain ⟨rfl, hb1⟩ := of_err hp1 HR.out
  have HQ1 := Lib.hid ((hb1.block _ (heap_lt HQ.out)).trans HQ.out)
  have HB1 := Lib.hid (HB0.out.trans (hb1.mono HB0.out.size))
  clear a0 a1 hb1 hp1
  have hb2 := boxed w1 (.cells #[.int .i64 (x : Nat), .int .i64 (a : Nat)] 28)
  have hn2 := heap_new w1 (.cells #[.int .i64 (x : Nat), .int .i64 (a : Nat)] 28)
  have hl1 := heap_lt HQ1.out
  obtain ⟨W2, hW2⟩ : ∃ W, W = w1.alloc (.cells #[.int .i64 (x : Nat), .int .i64 (a : Nat)] 28) := ⟨_, rfl⟩
  go_upto_region 2 with fail
  rw [← hW2] at hb2 hn2 ⊢
  clear hW2
  obtain ⟨a0, a1⟩ := row2 ((hb2.block _ hl1).trans HQ1.out)
  obtain ⟨b0, b1⟩ := row2 hn2
  have HB2 := Lib.hid (HB1.out.trans (hb2.mono HB1.out.size))
  have e1 : decide (300 < (s.size : Int)) = false := by simp; omega
  clear hb2 hn2
  go_wp2_with fail
  refine (awake_any _).mono ?_
  rintro e w3 ⟨rfl, hb3⟩
  go_wp2_with fail
  go_ret
  exact ⟨rfl, HB2.out.trans (hb3.mono HB2.out.size)⟩

set_option maxRecDepth 100000 in
set_option maxHeartbeats 1000000 in
theorem law_many (s : ByteArray) (at0 : Int) (PA : Option Addr) (ps : List ByteArray) (pc : Nat) (f : Bool) (w : World) (hp : RS w w.heap.size PA ps) (hpc : ps.length ≤ pc) (hpm : pc ≤ maxLen) (hlow : -9223372036854775808 ≤ at0) (hhigh : at0 ≤ 9223372036854775807) (h : s.size ≤ 300) (r : List Tk.Tok) (hr : Tk.ofL s.data.toList = .ok r) (h20 : 20 < ps.length) : Calls Try.prog 3 #[.agg #[.string s, .int .i64 at0], .slice PA ps.length pc, .bool f] w fun e w' => e = .returned (.bool true) ∧ Below w.heap.size w w' := by
  have HR := Lib.hid hr
  clear hr
  go_enter Try.func3, Try.ntmps3
  go_upto_region 1 with fail
  have hq := heap_new w (.cells #[.string s, .int .i64 at0] 23)
  have hb0 := boxed w (.cells #[.string s, .int .i64 at0] 23)
  obtain ⟨W0, hW0⟩ : ∃ W, W = w.alloc (.cells #[.string s, .int .i64 at0] 23) := ⟨_, rfl⟩
  rw [← hW0] at hq hb0 ⊢
  clear hW0
  obtain ⟨a0, a1⟩ := row2 hq
  have HQ := Lib.hid hq
  have HB0 := Lib.hid hb0
  clear hq hb0
  go_wp2_with fail
  refine (refOf_any s (by omega) _).mono ?_
  rintro e w1 hp1
  obtain ⟨g, c, rfl, hg1, hl1, hc1, hm1, hcell1, hb1⟩ := of_ok hp1 HR.out
  have hrt1 := rt_of hcell1 hl1
  have hrl := Tk.ofL_len HR.out
  have HQ1 := Lib.hid ((hb1.block _ (heap_lt HQ.out)).trans HQ.out)
  have HB1 := Lib.hid (HB0.out.trans (hb1.mono HB0.out.size))
  clear a0 a1 hb1 hp1 hcell1
  obtain ⟨L, hL⟩ : ∃ L, L = r.map Gt.ofTok := ⟨_, rfl⟩
  have hlen : r.length = L.length := by rw [hL, List.length_map]
  rw [← hL] at hrt1
  rw [hlen] at hc1 hrl ⊢
  have hbd : L.length ≤ 1000000 := by
    have h2 : s.data.toList.length = s.size := rfl
    rw [h2] at hrl
    omega
  clear hL hlen
  have hb2 := boxed w1 (.cells #[.int .i64 0, .int .i64 0] 28)
  have hn2 := heap_new w1 (.cells #[.int .i64 0, .int .i64 0] 28)
  have hlq := heap_lt HQ1.out
  obtain ⟨W2, hW2⟩ : ∃ W, W = w1.alloc (.cells #[.int .i64 0, .int .i64 0] 28) := ⟨_, rfl⟩
  go_upto_region 2 with fail
  rw [← hW2] at hb2 hn2 ⊢
  clear hW2
  have HQ2 := Lib.hid ((hb2.block _ hlq).trans HQ1.out)
  obtain ⟨a0, a1⟩ := row2 HQ2.out
  obtain ⟨b0, b1⟩ := row2 hn2
  have HB2 := Lib.hid (HB1.out.trans (hb2.mono HB1.out.size))
  have HRT : Hid (∀ W, Below W2.heap.size W2 W → RT W W.heap.size (some ⟨g, 0, none⟩) L) := Lib.hid (fun W hb => ((hrt1.below hb2).more hb2.size).below (hb) |>.more hb.size)
  have HRS : Hid (∀ W, Below w.heap.size w W → RS W W.heap.size PA ps) := Lib.hid (fun W hb => (hp.below hb).more hb.size)
  have e1 : decide (300 < (s.size : Int)) = false := by simp; omega
  clear hb2 hn2 hrt1
  have e2 : decide (20 < (ps.length : Int)) = true := by simp; omega
  go_wp2_with fail
  refine (awake_any _).mono ?_
  rintro e w3 ⟨rfl, hb3⟩
  go_wp2_with fail
  go_ret
  exact ⟨rfl, HB2.out.trans (hb3.mono HB2.out.size)⟩

set_option maxRecDepth 100000 in
set_option maxHeartbeats 4000000 in
theorem law_main (s : ByteArray) (at0 : Int) (PA : Option Addr) (ps : List ByteArray) (pc : Nat) (f : Bool) (w : World) (hp : RS w w.heap.size PA ps) (hpc : ps.length ≤ pc) (hpm : pc ≤ maxLen) (hlow : -9223372036854775808 ≤ at0) (hhigh : at0 ≤ 9223372036854775807) (h : s.size ≤ 300) (r : List Tk.Tok) (hr : Tk.ofL s.data.toList = .ok r) (h20 : ps.length ≤ 20) : Calls Try.prog 3 #[.agg #[.string s, .int .i64 at0], .slice PA ps.length pc, .bool f] w fun e w' => e = .returned (.bool true) ∧ Below w.heap.size w w' := by
  have HR := Lib.hid hr
  clear hr
  go_enter Try.func3, Try.ntmps3
  go_upto_region 1 with fail
  have hq := heap_new w (.cells #[.string s, .int .i64 at0] 23)
  have hb0 := boxed w (.cells #[.string s, .int .i64 at0] 23)
  obtain ⟨W0, hW0⟩ : ∃ W, W = w.alloc (.cells #[.string s, .int .i64 at0] 23) := ⟨_, rfl⟩
  rw [← hW0] at hq hb0 ⊢
  clear hW0
  obtain ⟨a0, a1⟩ := row2 hq
  have HQ := Lib.hid hq
  have HB0 := Lib.hid hb0
  clear hq hb0
  go_wp2_with fail
  refine (refOf_any s (by omega) _).mono ?_
  rintro e w1 hp1
  obtain ⟨g, c, rfl, hg1, hl1, hc1, hm1, hcell1, hb1⟩ := of_ok hp1 HR.out
  have hrt1 := rt_of hcell1 hl1
  have hrl := Tk.ofL_len HR.out
  have HQ1 := Lib.hid ((hb1.block _ (heap_lt HQ.out)).trans HQ.out)
  have HB1 := Lib.hid (HB0.out.trans (hb1.mono HB0.out.size))
  clear a0 a1 hb1 hp1 hcell1
  obtain ⟨L, hL⟩ : ∃ L, L = r.map Gt.ofTok := ⟨_, rfl⟩
  have hlen : r.length = L.length := by rw [hL, List.length_map]
  rw [← hL] at hrt1
  rw [hlen] at hc1 hrl ⊢
  have hbd : L.length ≤ 1000000 := by
    have h2 : s.data.toList.length = s.size := rfl
    rw [h2] at hrl
    omega
  clear hL hlen
  have hb2 := boxed w1 (.cells #[.int .i64 0, .int .i64 0] 28)
  have hn2 := heap_new w1 (.cells #[.int .i64 0, .int .i64 0] 28)
  have hlq := heap_lt HQ1.out
  obtain ⟨W2, hW2⟩ : ∃ W, W = w1.alloc (.cells #[.int .i64 0, .int .i64 0] 28) := ⟨_, rfl⟩
  go_upto_region 2 with fail
  rw [← hW2] at hb2 hn2 ⊢
  clear hW2
  have HQ2 := Lib.hid ((hb2.block _ hlq).trans HQ1.out)
  obtain ⟨a0, a1⟩ := row2 HQ2.out
  obtain ⟨b0, b1⟩ := row2 hn2
  have HB2 := Lib.hid (HB1.out.trans (hb2.mono HB1.out.size))
  have HRT : Hid (∀ W, Below W2.heap.size W2 W → RT W W.heap.size (some ⟨g, 0, none⟩) L) := Lib.hid (fun W hb => ((hrt1.below hb2).more hb2.size).below (hb) |>.more hb.size)
  have HRS : Hid (∀ W, Below w.heap.size w W → RS W W.heap.size PA ps) := Lib.hid (fun W hb => (hp.below hb).more hb.size)
  have e1 : decide (300 < (s.size : Int)) = false := by simp; omega
  clear hb2 hn2 hrt1
  have e2 : decide (20 < (ps.length : Int)) = false := by simp; omega
  have HP4 := Lib.hid (parse_any L _ c PA ps pc at0 f W2 (HRT.out W2 (Below.refl _ _)) (HRS.out W2 HB2.out) hc1 hm1 hlow hhigh (by omega) hpc hbd)
  obtain ⟨kr, hkr⟩ : ∃ k, k = kindP L ps at0 f := ⟨_, rfl⟩
  obtain ⟨wr0, hwr⟩ : ∃ k, k = ownersP L ps at0 := ⟨_, rfl⟩
  have HKR := Lib.hid hkr
  have HWR := Lib.hid hwr
  rw [← hkr] at HP4
  clear hkr hwr
  obtain ⟨t, ht⟩ : ∃ t, t = tyR kr := ⟨_, rfl⟩
  obtain ⟨nx, hnx⟩ : ∃ t, t = nxR kr := ⟨_, rfl⟩
  obtain ⟨er, her⟩ : ∃ t, t = erR kr := ⟨_, rfl⟩
  obtain ⟨po, hpo⟩ : ∃ t, t = poR kr := ⟨_, rfl⟩
  obtain ⟨mx, hmx⟩ : ∃ t, t = nxR wr0 := ⟨_, rfl⟩
  obtain ⟨es, hes⟩ : ∃ t, t = erR wr0 := ⟨_, rfl⟩
  obtain ⟨pq, hpq⟩ : ∃ t, t = poR wr0 := ⟨_, rfl⟩
  obtain ⟨y, hy⟩ : ∃ t, t = owR wr0 := ⟨_, rfl⟩
  have HA := Lib.hid (And.intro ht (And.intro hnx (And.intro her hpo)))
  have HA2 := Lib.hid (And.intro hmx (And.intro hes (And.intro hpq hy)))
  clear ht hnx her hpo hmx hes hpq hy
  go_wp2_with fail
  refine HP4.out.mono ?_
  rintro x w3 hpost
  obtain ⟨hx, hb3⟩ := rd_ty hpost
  rw [← HA.out.1, ← HA.out.2.1, ← HA.out.2.2.1, ← HA.out.2.2.2] at hx
  have hx : x = .returned (.tuple #[.agg #[.int .i64 t.kind, .string t.cls, .int .i64 t.n, .int .i64 t.o0.kind, .int .i64 t.o0.n, .int .i64 t.o1.kind, .int .i64 t.o1.n, .int .i64 t.o2.kind, .int .i64 t.o2.n, .int .i64 t.o3.kind, .int .i64 t.o3.n], .int .i64 nx, .agg #[.int .i64 er, .int .i64 po]]) := hx
  subst hx
  clear hpost
  obtain ⟨z0, z1, z2, z3⟩ := two2 (Below.refl ((w3.alloc (.cells #[.int .i64 t.kind, .string t.cls, .int .i64 t.n, .int .i64 t.o0.kind, .int .i64 t.o0.n, .int .i64 t.o1.kind, .int .i64 t.o1.n, .int .i64 t.o2.kind, .int .i64 t.o2.n, .int .i64 t.o3.kind, .int .i64 t.o3.n] 36)).alloc (.cells #[.int .i64 er, .int .i64 po] 28)).heap.size _)
  have hq3 := (hb3.block _ (heap_lt HQ2.out)).trans HQ2.out
  have hlq3 := heap_lt hq3
  obtain ⟨W4, hW4⟩ : ∃ W, W = (w3.alloc (.cells #[.int .i64 t.kind, .string t.cls, .int .i64 t.n, .int .i64 t.o0.kind, .int .i64 t.o0.n, .int .i64 t.o1.kind, .int .i64 t.o1.n, .int .i64 t.o2.kind, .int .i64 t.o2.n, .int .i64 t.o3.kind, .int .i64 t.o3.n] 36)).alloc (.cells #[.int .i64 er, .int .i64 po] 28) := ⟨_, rfl⟩
  go_upto_region 5 with fail
  rw [← hW4] at z0 z1 z2 z3 ⊢
  clear hW4 a0 a1 b0 b1
  have HZ0 := Lib.hid z0
  have HZ1 := Lib.hid z1
  have HQ4 := Lib.hid ((z2.block _ hlq3).trans hq3)
  have HB24 := Lib.hid (hb3.trans (z2.mono hb3.size))
  have HB4 := Lib.hid (HB2.out.trans (HB24.out.mono HB2.out.size))
  obtain ⟨a0, a1⟩ := row2 HQ4.out
  clear z0 z1 z2 hq3 hb3
  have HP5 := Lib.hid (refParse_any L _ c PA ps pc at0 f W4 (HRT.out W4 HB24.out) (HRS.out W4 HB4.out) hc1 hm1 (by omega) hpc hbd)
  rw [← HKR.out] at HP5
  go_wp2_with fail
  refine HP5.out.mono ?_
  rintro x w5 hpost
  obtain ⟨rfl, hb5⟩ := rt_ty hpost
  clear hpost
  obtain ⟨C5, hC5⟩ : ∃ C, C = gotL (.slice none 0 0) t ⟨#[]⟩ ty0 0 nx er po := ⟨_, rfl⟩
  have H5Z : Hid (C5.toArray.size = 28) := Lib.hid (by rw [hC5]; rfl)
  have H5I : Hid ((Try.prog.info? 43).map (·.size) = some C5.toArray.size) := Lib.hid (by rw [H5Z.out]; kernel_rfl)
  have H5O : Hid (C5.toArray.all (·.oneCell') = true) := Lib.hid (by rw [hC5]; exact got_ones _ _ _ _ _ _ _ _ _ _)
  have H5L : Hid (28 = C5.length) := Lib.hid (by rw [hC5]; rfl)
  have H5V : Hid (gotV (.slice none 0 0) (tyR kr) ⟨#[]⟩ ty0 0 (nxR kr) (erR kr) (poR kr) = .agg C5.toArray) := Lib.hid (by rw [← HA.out.1, ← HA.out.2.1, ← HA.out.2.2.1, ← HA.out.2.2.2, hC5]; rfl)
  have H5F : Hid (C5[1]? = some (.int .i64 t.kind) ∧ C5[2]? = some (.string t.cls) ∧ C5[3]? = some (.int .i64 t.n) ∧ C5[4]? = some (.int .i64 t.o0.kind) ∧ C5[5]? = some (.int .i64 t.o0.n) ∧ C5[6]? = some (.int .i64 t.o1.kind) ∧ C5[7]? = some (.int .i64 t.o1.n) ∧ C5[8]? = some (.int .i64 t.o2.kind) ∧ C5[9]? = some (.int .i64 t.o2.n) ∧ C5[10]? = some (.int .i64 t.o3.kind) ∧ C5[11]? = some (.int .i64 t.o3.n) ∧ C5[25]? = some (.int .i64 nx) ∧ C5[26]? = some (.int .i64 er) ∧ C5[27]? = some (.int .i64 po)) := Lib.hid (by rw [hC5]; exact ⟨rfl, rfl, rfl, rfl, rfl, rfl, rfl, rfl, rfl, rfl, rfl, rfl, rfl, rfl⟩)
  clear hC5
  have hq5 := (hb5.block _ (heap_lt HQ4.out)).trans HQ4.out
  have hz05 := (hb5.block _ (heap_lt HZ0.out)).trans HZ0.out
  have hz15 := (hb5.block _ (heap_lt HZ1.out)).trans HZ1.out
  have hl5a := heap_lt hq5
  have hl5b := heap_lt hz05
  have hl5c := heap_lt hz15
  clear a0 a1
  have hbn5 := boxed w5 (.cells #[.slice none 0 0, .int .i64 0, .string ⟨#[]⟩, .int .i64 0, .int .i64 0, .int .i64 0, .int .i64 0, .int .i64 0, .int .i64 0, .int .i64 0, .int .i64 0, .int .i64 0, .string ⟨#[]⟩, .int .i64 0, .string ⟨#[]⟩, .int .i64 0, .int .i64 0, .int .i64 0, .int .i64 0, .int .i64 0, .int .i64 0, .int .i64 0, .int .i64 0, .int .i64 0, .int .i64 0, .int .i64 0, .int .i64 0, .int .i64 0] 43)
  have hnn5 := heap_new w5 (.cells #[.slice none 0 0, .int .i64 0, .string ⟨#[]⟩, .int .i64 0, .int .i64 0, .int .i64 0, .int .i64 0, .int .i64 0, .int .i64 0, .int .i64 0, .int .i64 0, .int .i64 0, .string ⟨#[]⟩, .int .i64 0, .string ⟨#[]⟩, .int .i64 0, .int .i64 0, .int .i64 0, .int .i64 0, .int .i64 0, .int .i64 0, .int .i64 0, .int .i64 0, .int .i64 0, .int .i64 0, .int .i64 0, .int .i64 0, .int .i64 0] 43)
  have hthg : World.there (w5.alloc (.cells #[.slice none 0 0, .int .i64 0, .string ⟨#[]⟩, .int .i64 0, .int .i64 0, .int .i64 0, .int .i64 0, .int .i64 0, .int .i64 0, .int .i64 0, .int .i64 0, .int .i64 0, .string ⟨#[]⟩, .int .i64 0, .string ⟨#[]⟩, .int .i64 0, .int .i64 0, .int .i64 0, .int .i64 0, .int .i64 0, .int .i64 0, .int .i64 0, .int .i64 0, .int .i64 0, .int .i64 0, .int .i64 0, .int .i64 0, .int .i64 0] 43)) w5.heap.size 0 C5.toArray.size := there_row (cs := [.slice none 0 0, .int .i64 0, .string ⟨#[]⟩, .int .i64 0, .int .i64 0, .int .i64 0, .int .i64 0, .int .i64 0, .int .i64 0, .int .i64 0, .int .i64 0, .int .i64 0, .string ⟨#[]⟩, .int .i64 0, .string ⟨#[]⟩, .int .i64 0, .int .i64 0, .int .i64 0, .int .i64 0, .int .i64 0, .int .i64 0, .int .i64 0, .int .i64 0, .int .i64 0, .int .i64 0, .int .i64 0, .int .i64 0, .int .i64 0]) hnn5 (by rw [H5Z.out]; rfl)
  have hng5 := set_all (cs := [.slice none 0 0, .int .i64 0, .string ⟨#[]⟩, .int .i64 0, .int .i64 0, .int .i64 0, .int .i64 0, .int .i64 0, .int .i64 0, .int .i64 0, .int .i64 0, .int .i64 0, .string ⟨#[]⟩, .int .i64 0, .string ⟨#[]⟩, .int .i64 0, .int .i64 0, .int .i64 0, .int .i64 0, .int .i64 0, .int .i64 0, .int .i64 0, .int .i64 0, .int .i64 0, .int .i64 0, .int .i64 0, .int .i64 0, .int .i64 0]) hnn5 C5 H5L.out
  have hbg5 := setCells_below w5.heap.size (Nat.le_refl _) C5 0 _ hbn5
  have hgi2 := H5I.out
  have hgone := H5O.out
  obtain ⟨W6, hW6⟩ : ∃ W, W = (w5.alloc (.cells #[.slice none 0 0, .int .i64 0, .string ⟨#[]⟩, .int .i64 0, .int .i64 0, .int .i64 0, .int .i64 0, .int .i64 0, .int .i64 0, .int .i64 0, .int .i64 0, .int .i64 0, .string ⟨#[]⟩, .int .i64 0, .string ⟨#[]⟩, .int .i64 0, .int .i64 0, .int .i64 0, .int .i64 0, .int .i64 0, .int .i64 0, .int .i64 0, .int .i64 0, .int .i64 0, .int .i64 0, .int .i64 0, .int .i64 0, .int .i64 0] 43)).setCells w5.heap.size 0 C5 := ⟨_, rfl⟩
  go_upto_region 6 with (refine wpList_store_mid rfl 43 (.tmp 12) (.tmp 54) rfl w5.heap.size 0 C5.toArray rfl H5V.out hthg hgi2 hgone ?_)
  change Code.wp _ _ _ _ ((w5.alloc (.cells #[.slice none 0 0, .int .i64 0, .string ⟨#[]⟩, .int .i64 0, .int .i64 0, .int .i64 0, .int .i64 0, .int .i64 0, .int .i64 0, .int .i64 0, .int .i64 0, .int .i64 0, .string ⟨#[]⟩, .int .i64 0, .string ⟨#[]⟩, .int .i64 0, .int .i64 0, .int .i64 0, .int .i64 0, .int .i64 0, .int .i64 0, .int .i64 0, .int .i64 0, .int .i64 0, .int .i64 0, .int .i64 0, .int .i64 0, .int .i64 0] 43)).setCells w5.heap.size 0 C5)
  rw [← hW6] at hbg5 hng5 ⊢
  clear hW6 hnn5 hbn5 hthg hgi2 hgone
  have HB46 := Lib.hid (hb5.trans (hbg5.mono hb5.size))
  have HQ6 := Lib.hid ((hbg5.block _ hl5a).trans hq5)
  have HZ06 := Lib.hid ((hbg5.block _ hl5b).trans hz05)
  have HZ16 := Lib.hid ((hbg5.block _ hl5c).trans hz15)
  have HN5 := Lib.hid hng5
  have HB6 := Lib.hid (HB4.out.trans (HB46.out.mono HB4.out.size))
  have HB26 := Lib.hid (HB24.out.trans (HB46.out.mono HB24.out.size))
  obtain ⟨a0, a1⟩ := row2 HQ6.out
  clear hb5 hbg5 hng5 hq5 hz05 hz15
  have HP7 := Lib.hid (ownersAt_any L _ c PA ps pc at0 W6 (HRT.out W6 HB26.out) (HRS.out W6 HB6.out) hc1 hm1 hlow hhigh (by omega) hpc hbd)
  rw [← HWR.out] at HP7
  go_wp2_with fail
  refine HP7.out.mono ?_
  rintro x w7 hpost
  obtain ⟨v, hx, hb7, hown⟩ := ro_ow hpost
  rw [← HA2.out.1, ← HA2.out.2.1, ← HA2.out.2.2.1] at hx
  have hx : x = .returned (.tuple #[v, .int .i64 mx, .agg #[.int .i64 es, .int .i64 pq]]) := hx
  subst hx
  rw [← HA2.out.2.2.2] at hown
  obtain ⟨n, hn⟩ : ∃ n, n = y.length := ⟨_, rfl⟩
  obtain ⟨A1, c1, rfl, hnc1, hrd1⟩ := own_read hown hn
  have HN := Lib.hid hn
  clear hpost hn hown
  have hb8 := boxed w7 (.cells #[.int .i64 es, .int .i64 pq] 28)
  have hn8 := heap_new w7 (.cells #[.int .i64 es, .int .i64 pq] 28)
  have hq7 := (hb7.block _ (heap_lt HQ6.out)).trans HQ6.out
  have hz07 := (hb7.block _ (heap_lt HZ06.out)).trans HZ06.out
  have hz17 := (hb7.block _ (heap_lt HZ16.out)).trans HZ16.out
  have hn57 := (hb7.block _ (heap_lt HN5.out)).trans HN5.out
  have hl7a := heap_lt hq7
  have hl7b := heap_lt hz07
  have hl7c := heap_lt hz17
  have hl7d := heap_lt hn57
  obtain ⟨W8, hW8⟩ : ∃ W, W = w7.alloc (.cells #[.int .i64 es, .int .i64 pq] 28) := ⟨_, rfl⟩
  go_upto_region 7 with fail
  rw [← hW8] at hb8 hn8 ⊢
  clear hW8 a0 a1
  have HRD1 : Hid (∀ k, k < n → ∃ b, A1 = some ⟨b, 0, none⟩ ∧ b < W8.heap.size ∧ W8.cell? ⟨b, k * 2, none⟩ = some (.int .i64 (y.getD k ⟨0, 0⟩).kind) ∧ W8.cell? ⟨b, k * 2 + 1, none⟩ = some (.int .i64 (y.getD k ⟨0, 0⟩).n)) := Lib.hid (fun k hk => by
    obtain ⟨b, h1, h2, h3, h4⟩ := hrd1 k hk
    exact ⟨b, h1, by have := hb8.size; omega, (hb8.cell (p := ⟨b, _, none⟩) h2).trans h3, (hb8.cell (p := ⟨b, _, none⟩) h2).trans h4⟩)
  have HB68 := Lib.hid (hb7.trans (hb8.mono hb7.size))
  have HQ8 := Lib.hid ((hb8.block _ hl7a).trans hq7)
  have HZ08 := Lib.hid ((hb8.block _ hl7b).trans hz07)
  have HZ18 := Lib.hid ((hb8.block _ hl7c).trans hz17)
  have HN58 := Lib.hid ((hb8.block _ hl7d).trans hn57)
  have HN8 := Lib.hid hn8
  have HB8 := Lib.hid (HB6.out.trans (HB68.out.mono HB6.out.size))
  have HB28 := Lib.hid (HB26.out.trans (HB68.out.mono HB26.out.size))
  obtain ⟨a0, a1⟩ := row2 HQ8.out
  clear hb7 hb8 hn8 hq7 hz07 hz17 hn57 hrd1
  have HP9 := Lib.hid (refOwners_any L _ c PA ps pc at0 W8 (HRT.out W8 HB28.out) (HRS.out W8 HB8.out) hc1 hm1 (by omega) hpc hbd)
  rw [← HWR.out] at HP9
  go_wp2_with fail
  refine HP9.out.mono ?_
  rintro x w9 hpost
  obtain ⟨v2, rfl, hb9, hown2⟩ := rw_ow hpost
  rw [← HA2.out.2.2.2] at hown2
  obtain ⟨A2, c2, rfl, hnc2, hrd2⟩ := own_read hown2 HN.out
  clear hpost hown2
  obtain ⟨C9, hC9⟩ : ∃ C, C = gotL (.slice A2 n c2) ty0 ⟨#[]⟩ ty0 0 mx es pq := ⟨_, rfl⟩
  have H9Z : Hid (C9.toArray.size = 28) := Lib.hid (by rw [hC9]; rfl)
  have H9I : Hid ((Try.prog.info? 43).map (·.size) = some C9.toArray.size) := Lib.hid (by rw [H9Z.out]; kernel_rfl)
  have H9O : Hid (C9.toArray.all (·.oneCell') = true) := Lib.hid (by rw [hC9]; exact got_ones _ _ _ _ _ _ _ _ _ _)
  have H9L : Hid (28 = C9.length) := Lib.hid (by rw [hC9]; rfl)
  have H9V : Hid (gotV (.slice A2 n c2) ty0 ⟨#[]⟩ ty0 0 (nxR wr0) (erR wr0) (poR wr0) = .agg C9.toArray) := Lib.hid (by rw [← HA2.out.1, ← HA2.out.2.1, ← HA2.out.2.2.1, hC9]; rfl)
  have H9F : Hid (C9[0]? = some (.slice A2 n c2) ∧ C9[25]? = some (.int .i64 mx) ∧ C9[26]? = some (.int .i64 es) ∧ C9[27]? = some (.int .i64 pq)) := Lib.hid (by rw [hC9]; exact ⟨rfl, rfl, rfl, rfl⟩)
  clear hC9
  have hz09 := (hb9.block _ (heap_lt HZ08.out)).trans HZ08.out
  have hz19 := (hb9.block _ (heap_lt HZ18.out)).trans HZ18.out
  have hn59 := (hb9.block _ (heap_lt HN58.out)).trans HN58.out
  have hn89 := (hb9.block _ (heap_lt HN8.out)).trans HN8.out
  have hl9b := heap_lt hz09
  have hl9c := heap_lt hz19
  have hl9d := heap_lt hn59
  have hl9e := heap_lt hn89
  clear a0 a1
  have hbn9 := boxed w9 (.cells #[.slice none 0 0, .int .i64 0, .string ⟨#[]⟩, .int .i64 0, .int .i64 0, .int .i64 0, .int .i64 0, .int .i64 0, .int .i64 0, .int .i64 0, .int .i64 0, .int .i64 0, .string ⟨#[]⟩, .int .i64 0, .string ⟨#[]⟩, .int .i64 0, .int .i64 0, .int .i64 0, .int .i64 0, .int .i64 0, .int .i64 0, .int .i64 0, .int .i64 0, .int .i64 0, .int .i64 0, .int .i64 0, .int .i64 0, .int .i64 0] 43)
  have hnn9 := heap_new w9 (.cells #[.slice none 0 0, .int .i64 0, .string ⟨#[]⟩, .int .i64 0, .int .i64 0, .int .i64 0, .int .i64 0, .int .i64 0, .int .i64 0, .int .i64 0, .int .i64 0, .int .i64 0, .string ⟨#[]⟩, .int .i64 0, .string ⟨#[]⟩, .int .i64 0, .int .i64 0, .int .i64 0, .int .i64 0, .int .i64 0, .int .i64 0, .int .i64 0, .int .i64 0, .int .i64 0, .int .i64 0, .int .i64 0, .int .i64 0, .int .i64 0] 43)
  have hthg : World.there (w9.alloc (.cells #[.slice none 0 0, .int .i64 0, .string ⟨#[]⟩, .int .i64 0, .int .i64 0, .int .i64 0, .int .i64 0, .int .i64 0, .int .i64 0, .int .i64 0, .int .i64 0, .int .i64 0, .string ⟨#[]⟩, .int .i64 0, .string ⟨#[]⟩, .int .i64 0, .int .i64 0, .int .i64 0, .int .i64 0, .int .i64 0, .int .i64 0, .int .i64 0, .int .i64 0, .int .i64 0, .int .i64 0, .int .i64 0, .int .i64 0, .int .i64 0] 43)) w9.heap.size 0 C9.toArray.size := there_row (cs := [.slice none 0 0, .int .i64 0, .string ⟨#[]⟩, .int .i64 0, .int .i64 0, .int .i64 0, .int .i64 0, .int .i64 0, .int .i64 0, .int .i64 0, .int .i64 0, .int .i64 0, .string ⟨#[]⟩, .int .i64 0, .string ⟨#[]⟩, .int .i64 0, .int .i64 0, .int .i64 0, .int .i64 0, .int .i64 0, .int .i64 0, .int .i64 0, .int .i64 0, .int .i64 0, .int .i64 0, .int .i64 0, .int .i64 0, .int .i64 0]) hnn9 (by rw [H9Z.out]; rfl)
  have hng9 := set_all (cs := [.slice none 0 0, .int .i64 0, .string ⟨#[]⟩, .int .i64 0, .int .i64 0, .int .i64 0, .int .i64 0, .int .i64 0, .int .i64 0, .int .i64 0, .int .i64 0, .int .i64 0, .string ⟨#[]⟩, .int .i64 0, .string ⟨#[]⟩, .int .i64 0, .int .i64 0, .int .i64 0, .int .i64 0, .int .i64 0, .int .i64 0, .int .i64 0, .int .i64 0, .int .i64 0, .int .i64 0, .int .i64 0, .int .i64 0, .int .i64 0]) hnn9 C9 H9L.out
  have hbg9 := setCells_below w9.heap.size (Nat.le_refl _) C9 0 _ hbn9
  have hgi2 := H9I.out
  have hgone := H9O.out
  obtain ⟨W10, hW10⟩ : ∃ W, W = (w9.alloc (.cells #[.slice none 0 0, .int .i64 0, .string ⟨#[]⟩, .int .i64 0, .int .i64 0, .int .i64 0, .int .i64 0, .int .i64 0, .int .i64 0, .int .i64 0, .int .i64 0, .int .i64 0, .string ⟨#[]⟩, .int .i64 0, .string ⟨#[]⟩, .int .i64 0, .int .i64 0, .int .i64 0, .int .i64 0, .int .i64 0, .int .i64 0, .int .i64 0, .int .i64 0, .int .i64 0, .int .i64 0, .int .i64 0, .int .i64 0, .int .i64 0] 43)).setCells w9.heap.size 0 C9 := ⟨_, rfl⟩
  go_upto_region 8 with (refine wpList_store_mid rfl 43 (.tmp 16) (.tmp 68) rfl w9.heap.size 0 C9.toArray rfl H9V.out hthg hgi2 hgone ?_)
  change Code.wp _ _ _ _ ((w9.alloc (.cells #[.slice none 0 0, .int .i64 0, .string ⟨#[]⟩, .int .i64 0, .int .i64 0, .int .i64 0, .int .i64 0, .int .i64 0, .int .i64 0, .int .i64 0, .int .i64 0, .int .i64 0, .string ⟨#[]⟩, .int .i64 0, .string ⟨#[]⟩, .int .i64 0, .int .i64 0, .int .i64 0, .int .i64 0, .int .i64 0, .int .i64 0, .int .i64 0, .int .i64 0, .int .i64 0, .int .i64 0, .int .i64 0, .int .i64 0, .int .i64 0] 43)).setCells w9.heap.size 0 C9)
  rw [← hW10] at hbg9 hng9 ⊢
  clear hW10 hnn9 hbn9 hthg hgi2 hgone
  have HB8A := Lib.hid (hb9.trans (hbg9.mono hb9.size))
  have HBA := Lib.hid (HB8.out.trans (HB8A.out.mono HB8.out.size))
  have hz0A := (hbg9.block _ hl9b).trans hz09
  have hz1A := (hbg9.block _ hl9c).trans hz19
  have hn5A := (hbg9.block _ hl9d).trans hn59
  have hn8A := (hbg9.block _ hl9e).trans hn89
  have HRDA : Hid (∀ k, k < n → ∃ b b', A1 = some ⟨b, 0, none⟩ ∧ A2 = some ⟨b', 0, none⟩ ∧ b < W10.heap.size ∧ b' < W10.heap.size ∧ W10.cell? ⟨b, k * 2, none⟩ = some (.int .i64 (y.getD k ⟨0, 0⟩).kind) ∧ W10.cell? ⟨b, k * 2 + 1, none⟩ = some (.int .i64 (y.getD k ⟨0, 0⟩).n) ∧ W10.cell? ⟨b', k * 2, none⟩ = some (.int .i64 (y.getD k ⟨0, 0⟩).kind) ∧ W10.cell? ⟨b', k * 2 + 1, none⟩ = some (.int .i64 (y.getD k ⟨0, 0⟩).n)) := Lib.hid (fun k hk => by
    obtain ⟨b, h1, h2, h3, h4⟩ := HRD1.out k hk
    obtain ⟨b', k1, k2, k3, k4⟩ := hrd2 k hk
    exact ⟨b, b', h1, k1, by have := HB8A.out.size; omega, by have := hbg9.size; omega, (HB8A.out.cell (p := ⟨b, _, none⟩) h2).trans h3, (HB8A.out.cell (p := ⟨b, _, none⟩) h2).trans h4, (hbg9.cell (p := ⟨b', _, none⟩) k2).trans k3, (hbg9.cell (p := ⟨b', _, none⟩) k2).trans k4⟩)
  have HN9 := Lib.hid hng9
  have x0 := cell_at (cs := [.int .i64 t.kind, .string t.cls, .int .i64 t.n, .int .i64 t.o0.kind, .int .i64 t.o0.n, .int .i64 t.o1.kind, .int .i64 t.o1.n, .int .i64 t.o2.kind, .int .i64 t.o2.n, .int .i64 t.o3.kind, .int .i64 t.o3.n]) hz0A 0 _ rfl
  have x1 := cell_at (cs := [.int .i64 t.kind, .string t.cls, .int .i64 t.n, .int .i64 t.o0.kind, .int .i64 t.o0.n, .int .i64 t.o1.kind, .int .i64 t.o1.n, .int .i64 t.o2.kind, .int .i64 t.o2.n, .int .i64 t.o3.kind, .int .i64 t.o3.n]) hz0A 1 _ rfl
  have x2 := cell_at (cs := [.int .i64 t.kind, .string t.cls, .int .i64 t.n, .int .i64 t.o0.kind, .int .i64 t.o0.n, .int .i64 t.o1.kind, .int .i64 t.o1.n, .int .i64 t.o2.kind, .int .i64 t.o2.n, .int .i64 t.o3.kind, .int .i64 t.o3.n]) hz0A 2 _ rfl
  have x3 := cell_at (cs := [.int .i64 t.kind, .string t.cls, .int .i64 t.n, .int .i64 t.o0.kind, .int .i64 t.o0.n, .int .i64 t.o1.kind, .int .i64 t.o1.n, .int .i64 t.o2.kind, .int .i64 t.o2.n, .int .i64 t.o3.kind, .int .i64 t.o3.n]) hz0A 3 _ rfl
  have x4 := cell_at (cs := [.int .i64 t.kind, .string t.cls, .int .i64 t.n, .int .i64 t.o0.kind, .int .i64 t.o0.n, .int .i64 t.o1.kind, .int .i64 t.o1.n, .int .i64 t.o2.kind, .int .i64 t.o2.n, .int .i64 t.o3.kind, .int .i64 t.o3.n]) hz0A 4 _ rfl
  have x5 := cell_at (cs := [.int .i64 t.kind, .string t.cls, .int .i64 t.n, .int .i64 t.o0.kind, .int .i64 t.o0.n, .int .i64 t.o1.kind, .int .i64 t.o1.n, .int .i64 t.o2.kind, .int .i64 t.o2.n, .int .i64 t.o3.kind, .int .i64 t.o3.n]) hz0A 5 _ rfl
  have x6 := cell_at (cs := [.int .i64 t.kind, .string t.cls, .int .i64 t.n, .int .i64 t.o0.kind, .int .i64 t.o0.n, .int .i64 t.o1.kind, .int .i64 t.o1.n, .int .i64 t.o2.kind, .int .i64 t.o2.n, .int .i64 t.o3.kind, .int .i64 t.o3.n]) hz0A 6 _ rfl
  have x7 := cell_at (cs := [.int .i64 t.kind, .string t.cls, .int .i64 t.n, .int .i64 t.o0.kind, .int .i64 t.o0.n, .int .i64 t.o1.kind, .int .i64 t.o1.n, .int .i64 t.o2.kind, .int .i64 t.o2.n, .int .i64 t.o3.kind, .int .i64 t.o3.n]) hz0A 7 _ rfl
  have x8 := cell_at (cs := [.int .i64 t.kind, .string t.cls, .int .i64 t.n, .int .i64 t.o0.kind, .int .i64 t.o0.n, .int .i64 t.o1.kind, .int .i64 t.o1.n, .int .i64 t.o2.kind, .int .i64 t.o2.n, .int .i64 t.o3.kind, .int .i64 t.o3.n]) hz0A 8 _ rfl
  have x9 := cell_at (cs := [.int .i64 t.kind, .string t.cls, .int .i64 t.n, .int .i64 t.o0.kind, .int .i64 t.o0.n, .int .i64 t.o1.kind, .int .i64 t.o1.n, .int .i64 t.o2.kind, .int .i64 t.o2.n, .int .i64 t.o3.kind, .int .i64 t.o3.n]) hz0A 9 _ rfl
  have x10 := cell_at (cs := [.int .i64 t.kind, .string t.cls, .int .i64 t.n, .int .i64 t.o0.kind, .int .i64 t.o0.n, .int .i64 t.o1.kind, .int .i64 t.o1.n, .int .i64 t.o2.kind, .int .i64 t.o2.n, .int .i64 t.o3.kind, .int .i64 t.o3.n]) hz0A 10 _ rfl
  obtain ⟨f0, f1⟩ := row2 hz1A
  obtain ⟨g0, g1⟩ := row2 hn8A
  obtain ⟨k1, k2, k3, k4, k5, k6, k7, k8, k9, k10, k11, k25, k26, k27⟩ := H5F.out
  have y1 := cell_at hn5A 1 _ k1
  have y2 := cell_at hn5A 2 _ k2
  have y3 := cell_at hn5A 3 _ k3
  have y4 := cell_at hn5A 4 _ k4
  have y5 := cell_at hn5A 5 _ k5
  have y6 := cell_at hn5A 6 _ k6
  have y7 := cell_at hn5A 7 _ k7
  have y8 := cell_at hn5A 8 _ k8
  have y9 := cell_at hn5A 9 _ k9
  have y10 := cell_at hn5A 10 _ k10
  have y11 := cell_at hn5A 11 _ k11
  have y25 := cell_at hn5A 25 _ k25
  have y26 := cell_at hn5A 26 _ k26
  have y27 := cell_at hn5A 27 _ k27
  obtain ⟨m0, m25, m26, m27⟩ := H9F.out
  have u0 := cell_at hng9 0 _ m0
  have u25 := cell_at hng9 25 _ m25
  have u26 := cell_at hng9 26 _ m26
  have u27 := cell_at hng9 27 _ m27
  have hE := eq_four 0 t.o0.kind t.o0.n t.o1.kind t.o1.n t.o2.kind t.o2.n t.o3.kind t.o3.n
  have hlA := heap_lt hng9
  clear hb9 hbg9 hng9 hz09 hz19 hn59 hn89 hz0A hz1A hn5A hn8A hrd2 k1 k2 k3 k4 k5 k6 k7 k8 k9 k10 k11 k25 k26 k27 m0 m25 m26 m27
  go_wp2_with fail
  clear hE x0 x1 x2 x3 x4 x5 x6 x7 x8 x9 x10 y1 y2 y3 y4 y5 y6 y7 y8 y9 y10 y11 y25 y26 y27 u0 u25 u26 u27 f0 f1 g0 g1
  have hHN : Hid (W10.cell? ⟨w9.heap.size, 0, none⟩ = some (.slice A2 n c2)) := Lib.hid (cell_at HN9.out 0 _ H9F.out.1)
  go_loopw [17] (fun i wr => ∃ k : Nat, k ≤ n ∧ i = .int .i64 k ∧ Hid (Below W10.heap.size W10 wr)) (fun i _ => n - (intOf i).toNat)
  case atStart => exact ⟨0, by omega, rfl, Lib.hid (Below.refl _ _)⟩
  case round =>
    obtain ⟨k, hk, rfl, hbw⟩ := hrel
    have hsz := hbw.out.size
    by_cases hlt : k < n
    · obtain ⟨b, b', rfl, rfl, hbl, hbl', q0, q1, q2, q3⟩ := HRDA.out k hlt
      have q0 := (hbw.out.cell (p := ⟨b, _, none⟩) hbl).trans q0
      have q1 := (hbw.out.cell (p := ⟨b, _, none⟩) hbl).trans q1
      have q2 := (hbw.out.cell (p := ⟨b', _, none⟩) hbl').trans q2
      have q3 := (hbw.out.cell (p := ⟨b', _, none⟩) hbl').trans q3
      have q4 := (hbw.out.cell (p := ⟨w9.heap.size, 0, none⟩) hlA).trans hHN.out
      obtain ⟨yk, hyk⟩ : ∃ yk, yk = (y.getD k ⟨0, 0⟩).kind := ⟨_, rfl⟩
      obtain ⟨yn, hyn⟩ : ∃ yn, yn = (y.getD k ⟨0, 0⟩).n := ⟨_, rfl⟩
      rw [← hyk] at q0 q2
      rw [← hyn] at q1 q3
      clear hyk hyn
      have hnn : (n : Int) ≤ 9223372036854775807 := by
        have := HN.out
        have := ownR_small HWR.out HA2.out.2.2.2
        omega
      go_wp2
      go_quiet (fail)
      go_wp2
      go_roundw
      case rel => exact ⟨k + 1, by omega, by go_num, Lib.hid (below_drewN hbw.out nq)⟩
      case measure => simp [intOf]; omega
    · go_wp2_with fail
      refine (awake_any _).mono ?_
      rintro e wz ⟨rfl, hbz⟩
      go_wp2_with fail
      go_ret
      exact ⟨rfl, (HBA.out.trans (hbw.out.mono HBA.out.size)).trans (hbz.mono (by have := HBA.out.size; omega))⟩

/-- The first law. -/
theorem law_parse (s : ByteArray) (at0 : Int) (PA : Option Addr) (ps : List ByteArray) (pc : Nat) (f : Bool) (w : World) (hp : RS w w.heap.size PA ps) (hpc : ps.length ≤ pc) (hpm : pc ≤ maxLen) (hlow : -9223372036854775808 ≤ at0) (hhigh : at0 ≤ 9223372036854775807) : Calls Try.prog 3 #[.agg #[.string s, .int .i64 at0], .slice PA ps.length pc, .bool f] w fun e w' => e = .returned (.bool true) ∧ Below w.heap.size w w' := by
  by_cases h : s.size ≤ 300
  · cases hr : Tk.ofL s.data.toList with
    | ok r =>
      by_cases h20 : ps.length ≤ 20
      · exact law_main s at0 PA ps pc f w hp hpc hpm hlow hhigh h r hr h20
      · exact law_many s at0 PA ps pc f w hp hpc hpm hlow hhigh h r hr (by omega)
    | err x a => exact law_err s at0 PA ps pc f w hp hpc hpm hlow hhigh h x a hr
  · exact law_big s at0 PA ps pc f w hp hpc hpm hlow hhigh (by omega)
end Go.Proofs.Ytbcgooofelnkoaa
