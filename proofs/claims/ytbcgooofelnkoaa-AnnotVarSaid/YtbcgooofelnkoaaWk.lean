/- The chapter's examples are as it says. Conditions: none. -/
import Derived.Test.YtbcgooofelnkoaaRq
namespace Go.Proofs.Ytbcgooofelnkoaa
open Go.RowKit
set_option linter.unusedVariables false

def ex1 : ByteArray := ⟨#[100, 97, 116, 97, 32, 73, 116, 101, 109, 32, 120]⟩
def ex2 : ByteArray := ⟨#[73, 116, 101, 109, 32, 120]⟩
def exL1 : List Tk.Tok := [⟨1, ⟨#[100, 97, 116, 97]⟩, 0⟩, ⟨1, ⟨#[73, 116, 101, 109]⟩, 5⟩, ⟨1, ⟨#[120]⟩, 10⟩, ⟨0, ⟨#[]⟩, 11⟩]
def exL2 : List Tk.Tok := [⟨1, ⟨#[73, 116, 101, 109]⟩, 0⟩, ⟨1, ⟨#[120]⟩, 5⟩, ⟨0, ⟨#[]⟩, 6⟩]
theorem ex1_ok : Tk.ofL ex1.data.toList = .ok exL1 := by kernel_rfl
theorem ex2_ok : Tk.ofL ex2.data.toList = .ok exL2 := by kernel_rfl
def wData : ByteArray := ⟨#[100, 97, 116, 97]⟩
theorem ex1_var : varP (exL1.map Gt.ofTok) [wData] 0 = .ok ⟨⟨#[120]⟩, ⟨2, ⟨#[73, 116, 101, 109]⟩, 0, ⟨3, 1⟩, ⟨0, 0⟩, ⟨0, 0⟩, ⟨0, 0⟩⟩, 0⟩ 3 := by kernel_rfl
theorem ex2_var : varP (exL2.map Gt.ofTok) [] 0 = .ok ⟨⟨#[120]⟩, ⟨2, ⟨#[73, 116, 101, 109]⟩, 0, ⟨7, 0⟩, ⟨0, 0⟩, ⟨0, 0⟩, ⟨0, 0⟩⟩, 0⟩ 2 := by kernel_rfl
set_option maxRecDepth 100000 in
set_option maxHeartbeats 2000000 in
theorem awake_any (w : World) : Calls Try.prog 6 #[] w fun e w' => e = .returned (.bool true) ∧ Below w.heap.size w w' := by
  have HV1 : Hid (∀ (g c gp : Nat) (W : World), RT W W.heap.size (some ⟨g, 0, none⟩) (exL1.map Gt.ofTok) → RS W W.heap.size (some ⟨gp, 0, none⟩) [wData] → 4 ≤ c → c ≤ maxLen → Calls Try.prog 11 #[.slice (some ⟨g, 0, none⟩) 4 c, .int .i64 0, .slice (some ⟨gp, 0, none⟩) 1 1] W fun x w' => x = .returned (.tuple #[.agg #[.string ⟨#[120]⟩, .int .i64 2, .string ⟨#[73, 116, 101, 109]⟩, .int .i64 0, .int .i64 3, .int .i64 1, .int .i64 0, .int .i64 0, .int .i64 0, .int .i64 0, .int .i64 0, .int .i64 0, .int .i64 0], .int .i64 3, .agg #[.int .i64 0, .int .i64 0]]) ∧ Below W.heap.size W w') := Lib.hid (fun g c gp W hr hp h4 hc =>
    (var_any (exL1.map Gt.ofTok) _ c _ [wData] 1 0 W hr hp h4 hc (by decide) (by decide) (by decide) (by decide) (by decide)).mono (fun x w' h => by
      obtain ⟨hb, hx⟩ := h
      rw [ex1_var] at hx
      exact ⟨hx, hb⟩))
  have HV2 : Hid (∀ (g c : Nat) (W : World), RT W W.heap.size (some ⟨g, 0, none⟩) (exL2.map Gt.ofTok) → 3 ≤ c → c ≤ maxLen → Calls Try.prog 11 #[.slice (some ⟨g, 0, none⟩) 3 c, .int .i64 0, .slice none 0 0] W fun x w' => x = .returned (.tuple #[.agg #[.string ⟨#[120]⟩, .int .i64 2, .string ⟨#[73, 116, 101, 109]⟩, .int .i64 0, .int .i64 7, .int .i64 0, .int .i64 0, .int .i64 0, .int .i64 0, .int .i64 0, .int .i64 0, .int .i64 0, .int .i64 0], .int .i64 2, .agg #[.int .i64 0, .int .i64 0]]) ∧ Below W.heap.size W w') := Lib.hid (fun g c W hr h3 hc =>
    (var_any (exL2.map Gt.ofTok) _ c none [] 0 0 W hr (rs_nil _ _) h3 hc (by decide) (by decide) (by decide) (by decide) (by decide)).mono (fun x w' h => by
      obtain ⟨hb, hx⟩ := h
      rw [ex2_var] at hx
      exact ⟨hx, hb⟩))
  go_enter Try.func6, Try.ntmps6
  go_wp2_with fail
  refine (refOf_any ex1 (by decide) _).mono ?_
  rintro e w1 hp1
  obtain ⟨g1, c1, rfl, hg1, hl1, hc1, hm1, hcell1, hb1⟩ := of_ok hp1 ex1_ok
  have hrt1 := rt_of hcell1 hl1
  have hb2 := boxed w1 (.cells #[.int .i64 0, .int .i64 0] 28)
  have hn2 := heap_new w1 (.cells #[.int .i64 0, .int .i64 0] 28)
  obtain ⟨W2, hW2⟩ : ∃ W, W = w1.alloc (.cells #[.int .i64 0, .int .i64 0] 28) := ⟨_, rfl⟩
  rw [show exL1.length = 4 from rfl]
  have HC1 : Hid (4 ≤ c1 ∧ c1 ≤ maxLen) := Lib.hid ⟨hc1, hm1⟩
  go_upto_region 2 with fail
  rw [← hW2] at hb2 hn2 ⊢
  clear hW2 hp1 hcell1 hn2
  have HB2 := Lib.hid (hb1.trans (hb2.mono hb1.size))
  have HR2 : Hid (RT W2 W2.heap.size (some ⟨g1, 0, none⟩) (exL1.map Gt.ofTok)) := Lib.hid ((hrt1.below hb2).more hb2.size)
  clear hrt1 hb1 hb2
  go_wp2_with fail
  refine (refOf_any ex2 (by decide) _).mono ?_
  rintro e w3 hp3
  obtain ⟨g3, c3, rfl, hg3, hl3, hc3, hm3, hcell3, hb3⟩ := of_ok hp3 ex2_ok
  have hrt3 := rt_of hcell3 hl3
  have hb4 := boxed w3 (.cells #[.int .i64 0, .int .i64 0] 28)
  obtain ⟨W4, hW4⟩ : ∃ W, W = w3.alloc (.cells #[.int .i64 0, .int .i64 0] 28) := ⟨_, rfl⟩
  rw [show exL2.length = 3 from rfl]
  have HC3 : Hid (3 ≤ c3 ∧ c3 ≤ maxLen) := Lib.hid ⟨hc3, hm3⟩
  go_upto_region 3 with fail
  rw [← hW4] at hb4 ⊢
  clear hW4 hp3 hcell3
  have HB34 := Lib.hid (hb3.trans (hb4.mono hb3.size))
  have HB4 := Lib.hid (HB2.out.trans (HB34.out.mono HB2.out.size))
  have HR4 : Hid (RT W4 W4.heap.size (some ⟨g1, 0, none⟩) (exL1.map Gt.ofTok)) := Lib.hid ((HR2.out.below HB34.out).more HB34.out.size)
  have HS4 : Hid (RT W4 W4.heap.size (some ⟨g3, 0, none⟩) (exL2.map Gt.ofTok)) := Lib.hid ((hrt3.below hb4).more hb4.size)
  clear hrt3 hb3 hb4
  have hb5 := boxed W4 (.cells #[.string ⟨#[100, 97, 116, 97]⟩] 9)
  have hn5 := heap_new W4 (.cells #[.string ⟨#[100, 97, 116, 97]⟩] 9)
  have hps : RS (W4.alloc (.cells #[.string ⟨#[100, 97, 116, 97]⟩] 9)) (W4.alloc (.cells #[.string ⟨#[100, 97, 116, 97]⟩] 9)).heap.size (some ⟨W4.heap.size, 0, none⟩) [wData] := fun _ => ⟨W4.heap.size, 0, rfl, by simp, fun i hi => by
    have : i = 0 := by simpa using hi
    subst this
    exact cell_of_row _ _ 0 _ _ (0, 0) hn5⟩
  have hr5 := (HR4.out.below hb5).more hb5.size
  have HS5 := Lib.hid ((HS4.out.below hb5).more hb5.size)
  have HB5 := Lib.hid (HB4.out.trans (hb5.mono HB4.out.size))
  have HK5 := Lib.hid (HV1.out g1 c1 W4.heap.size _ hr5 hps HC1.out.1 HC1.out.2)
  clear hb5 hn5 hps hr5
  go_wp2_with fail
  refine HK5.out.mono ?_
  rintro e w6 ⟨rfl, hb6⟩
  have HS6 := Lib.hid ((HS5.out.below hb6).more hb6.size)
  have HB6 := Lib.hid (HB5.out.trans (hb6.mono HB5.out.size))
  obtain ⟨z0, z1, z2, z3⟩ := two2 (Below.refl ((w6.alloc (.cells #[.string ⟨#[120]⟩, .int .i64 2, .string ⟨#[73, 116, 101, 109]⟩, .int .i64 0, .int .i64 3, .int .i64 1, .int .i64 0, .int .i64 0, .int .i64 0, .int .i64 0, .int .i64 0, .int .i64 0, .int .i64 0] 41)).alloc (.cells #[.int .i64 0, .int .i64 0] 28)).heap.size _)
  obtain ⟨W7, hW7⟩ : ∃ W, W = (w6.alloc (.cells #[.string ⟨#[120]⟩, .int .i64 2, .string ⟨#[73, 116, 101, 109]⟩, .int .i64 0, .int .i64 3, .int .i64 1, .int .i64 0, .int .i64 0, .int .i64 0, .int .i64 0, .int .i64 0, .int .i64 0, .int .i64 0] 41)).alloc (.cells #[.int .i64 0, .int .i64 0] 28) := ⟨_, rfl⟩
  go_upto_region 4 with fail
  rw [← hW7] at z0 z1 z2 z3 ⊢
  clear hW7 hb6
  have HS7 := Lib.hid ((HS6.out.below z2).more z2.size)
  have HB7 := Lib.hid (HB6.out.trans (z2.mono HB6.out.size))
  have HK7 := Lib.hid (HV2.out g3 c3 _ HS7.out HC3.out.1 HC3.out.2)
  have HZ0 := Lib.hid z0
  have HZ1 := Lib.hid z1
  clear z0 z1 z2
  go_wp2_with fail
  refine HK7.out.mono ?_
  rintro e w8 ⟨rfl, hb8⟩
  have HB8 := Lib.hid (HB7.out.trans (hb8.mono HB7.out.size))
  have hz0 := (hb8.block _ (heap_lt HZ0.out)).trans HZ0.out
  have hz1 := (hb8.block _ (heap_lt HZ1.out)).trans HZ1.out
  obtain ⟨y0, y1, y2, y3⟩ := two2 (Below.refl ((w8.alloc (.cells #[.string ⟨#[120]⟩, .int .i64 2, .string ⟨#[73, 116, 101, 109]⟩, .int .i64 0, .int .i64 7, .int .i64 0, .int .i64 0, .int .i64 0, .int .i64 0, .int .i64 0, .int .i64 0, .int .i64 0, .int .i64 0] 41)).alloc (.cells #[.int .i64 0, .int .i64 0] 28)).heap.size _)
  have hl8 := heap_lt hz1
  have hl80 := heap_lt hz0
  have hz0 := (y2.block _ hl80).trans hz0
  have hz1 := (y2.block _ hl8).trans hz1
  obtain ⟨W9, hW9⟩ : ∃ W, W = (w8.alloc (.cells #[.string ⟨#[120]⟩, .int .i64 2, .string ⟨#[73, 116, 101, 109]⟩, .int .i64 0, .int .i64 7, .int .i64 0, .int .i64 0, .int .i64 0, .int .i64 0, .int .i64 0, .int .i64 0, .int .i64 0, .int .i64 0] 41)).alloc (.cells #[.int .i64 0, .int .i64 0] 28) := ⟨_, rfl⟩
  go_upto_region 5 with fail
  rw [← hW9] at hz0 hz1 y0 y1 y2 y3 ⊢
  clear hW9 hb8
  have HB9 := Lib.hid (HB8.out.trans (y2.mono HB8.out.size))
  obtain ⟨a0, a1⟩ := row2 hz1
  obtain ⟨b0, b1⟩ := row2 y1
  have c0 := cell_at (cs := [.string ⟨#[120]⟩, .int .i64 2, .string ⟨#[73, 116, 101, 109]⟩, .int .i64 0, .int .i64 3, .int .i64 1, .int .i64 0, .int .i64 0, .int .i64 0, .int .i64 0, .int .i64 0, .int .i64 0, .int .i64 0]) hz0 4 _ rfl
  have c1' := cell_at (cs := [.string ⟨#[120]⟩, .int .i64 2, .string ⟨#[73, 116, 101, 109]⟩, .int .i64 0, .int .i64 3, .int .i64 1, .int .i64 0, .int .i64 0, .int .i64 0, .int .i64 0, .int .i64 0, .int .i64 0, .int .i64 0]) hz0 5 _ rfl
  have c2 := cell_at (cs := [.string ⟨#[120]⟩, .int .i64 2, .string ⟨#[73, 116, 101, 109]⟩, .int .i64 0, .int .i64 3, .int .i64 1, .int .i64 0, .int .i64 0, .int .i64 0, .int .i64 0, .int .i64 0, .int .i64 0, .int .i64 0]) hz0 2 _ rfl
  have d0 := cell_at (cs := [.string ⟨#[120]⟩, .int .i64 2, .string ⟨#[73, 116, 101, 109]⟩, .int .i64 0, .int .i64 7, .int .i64 0, .int .i64 0, .int .i64 0, .int .i64 0, .int .i64 0, .int .i64 0, .int .i64 0, .int .i64 0]) y0 0 _ rfl
  have d4 := cell_at (cs := [.string ⟨#[120]⟩, .int .i64 2, .string ⟨#[73, 116, 101, 109]⟩, .int .i64 0, .int .i64 7, .int .i64 0, .int .i64 0, .int .i64 0, .int .i64 0, .int .i64 0, .int .i64 0, .int .i64 0, .int .i64 0]) y0 4 _ rfl
  clear hz0 hz1 y0 y1 y2
  go_wp2_with fail
  go_ret
  exact ⟨rfl, HB9.out⟩
end Go.Proofs.Ytbcgooofelnkoaa
