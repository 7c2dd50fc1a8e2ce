/-
  Contracts of the draws' cursor over this seat's translation, in short: what is drawn lies in its range, the cursor stays one, and nothing else turns. Conditions: the cursor is one; a list to pick from is known, and lies in a block of its own.
-/
import Derived.Test.YtebeoijoljlhiaaGreatDoorMCur
import Derived.Deep.RegionHeld3
namespace Go.Proofs.YtebeoijoljlhiaaGreatDoor.kit
open Go.ChangeShapes Go.WideShapes Go.ChangeAt Go.RowKit
set_option linter.unusedVariables false

def CurE (w : World) (B : Nat) : Prop := ∃ (a : Option Addr) (n cap i : Nat) (h : Int), Cur w B a n cap i h
theorem CurE.lt {w : World} {B : Nat} (h : CurE w B) : B < w.heap.size := by obtain ⟨_, _, _, _, _, c⟩ := h; exact c.lt
theorem CurE.kept {w w' : World} {B C : Nat} (h : CurE w B) (hb : Below C w w') (hC : B < C) : CurE w' B := by
  obtain ⟨a, n, cap, i, h, c⟩ := h
  exact ⟨a, n, cap, i, h, Nat.lt_of_lt_of_le c.lt hb.size, (hb.cell (p := ⟨B, 0, none⟩) hC).trans c.c0, (hb.cell (p := ⟨B, 1, none⟩) hC).trans c.c1, (hb.cell (p := ⟨B, 2, none⟩) hC).trans c.c2, (hb.frozen (p := ⟨B, 1, none⟩) hC).trans c.f1, (hb.frozen (p := ⟨B, 2, none⟩) hC).trans c.f2, c.le, c.nle, fun j hj => by
    obtain ⟨b, off, x, e, h1, h2, h3⟩ := c.code j hj
    exact ⟨b, off, x, e, h1, (hb.cell (p := ⟨b, off + j, none⟩) (Nat.lt_trans h1 hC)).trans h2, h3⟩⟩
theorem OnlyB.cell {B : Nat} {w w' : World} (h : OnlyB B w w') {g o : Nat} (hg : g < w.heap.size) (hn : g ≠ B) : w'.cell? ⟨g, o, none⟩ = w.cell? ⟨g, o, none⟩ :=
  World.cell?_of_block (h.block g hg (by simpa using fun e => hn e))
def GotI (P : Int → Prop) (B : Nat) (w : World) (e : Ending) (w' : World) : Prop := ∃ x : Int, P x ∧ e = .returned (.int .i64 x) ∧ CurE w' B ∧ OnlyB B w w'
def GotB (B : Nat) (w : World) (e : Ending) (w' : World) : Prop := ∃ b : Bool, e = .returned (.bool b) ∧ CurE w' B ∧ OnlyB B w w'
def GotS (P : ByteArray → Prop) (B : Nat) (w : World) (e : Ending) (w' : World) : Prop := ∃ s : ByteArray, P s ∧ e = .returned (.string s) ∧ CurE w' B ∧ OnlyB B w w'
theorem byte_some (B : Nat) (w : World) (hc : CurE w B) :
    Calls Tryz.prog 88 #[.pointer (some ⟨B, 0, none⟩)] w (GotI (fun x => 0 ≤ x ∧ x ≤ 255) B w) := by
  obtain ⟨a, n, cap, i, h, c⟩ := hc
  exact (byte_any B a n cap i h w c).mono fun e w' ⟨x, i', h0, h1, he, c', _, ho⟩ => ⟨x, ⟨h0, h1⟩, he, ⟨_, _, _, _, _, c'⟩, ho⟩
set_option maxHeartbeats 400000 in
theorem below_any (B : Nat) (k : Int) (w : World) (hc : CurE w B) (hk : 1 ≤ k) (hk2 : k ≤ 9223372036854775807) :
    Calls Tryz.prog 42 #[.pointer (some ⟨B, 0, none⟩), .int .i64 k] w (GotI (fun x => 0 ≤ x ∧ x < k) B w) := by
  by_cases h6 : k ≤ 256
  · go_enter Tryz.func42, Tryz.ntmps42
    go_wp2_with fail
    refine (byte_some B _ hc).mono ?_
    rintro e w1 ⟨x, ⟨x0, x1⟩, rfl, c1, o1⟩
    go_wp2
    go_ret
    exact ⟨_, ⟨Int.emod_nonneg _ (by omega), Int.emod_lt_of_pos _ (by omega)⟩, rfl, c1, o1⟩
  · go_enter Tryz.func42, Tryz.ntmps42
    go_wp2_with fail
    refine (byte_some B _ hc).mono ?_
    rintro e w1 ⟨x, ⟨x0, x1⟩, rfl, c1, o1⟩
    go_wp2_with fail
    refine (byte_some B _ c1).mono ?_
    rintro e w2 ⟨y, ⟨y0, y1⟩, rfl, c2, o2⟩
    go_wp2_with fail
    refine (byte_some B _ c2).mono ?_
    rintro e w3 ⟨z, ⟨z0, z1⟩, rfl, c3, o3⟩
    go_wp2_with fail
    refine (byte_some B _ c3).mono ?_
    rintro e w4 ⟨v, ⟨v0, v1⟩, rfl, c4, o4⟩
    go_wp2
    go_ret
    exact ⟨_, ⟨Int.emod_nonneg _ (by omega), Int.emod_lt_of_pos _ (by omega)⟩, rfl, c4, o1.trans (o2.trans (o3.trans o4))⟩
theorem once_any (B : Nat) (k : Int) (w : World) (hc : CurE w B) (hk : 1 ≤ k) (hk2 : k ≤ 9223372036854775807) :
    Calls Tryz.prog 54 #[.pointer (some ⟨B, 0, none⟩), .int .i64 k] w (GotB B w) := by
  go_enter Tryz.func54, Tryz.ntmps54
  go_wp2_with fail
  refine (below_any B k _ hc hk hk2).mono ?_
  rintro e w1 ⟨x, ⟨x0, x1⟩, rfl, c1, o1⟩
  go_wp2
  go_ret
  exact ⟨_, rfl, c1, o1⟩
/-- A list in a block of its own. -/
def ListI (P : Int → Prop) (w : World) (g m : Nat) : Prop := g < w.heap.size ∧ ∀ j, j < m → ∃ z, P z ∧ w.cell? ⟨g, j, none⟩ = some (.int .i64 z)
def ListS (P : ByteArray → Prop) (w : World) (g m : Nat) : Prop := g < w.heap.size ∧ ∀ j, j < m → ∃ z, P z ∧ w.cell? ⟨g, j, none⟩ = some (.string z)
theorem pickInt_any (P : Int → Prop) (B g m cap : Nat) (w : World) (hc : CurE w B) (hl : ListI P w g m) (hg : g ≠ B) (hm : 1 ≤ m) (hm2 : m ≤ 1048576) :
    Calls Tryz.prog 132 #[.pointer (some ⟨B, 0, none⟩), .slice (some ⟨g, 0, none⟩) m cap] w (GotI P B w) := by
  have HL := Lib.hid hl
  clear hl
  go_enter Tryz.func132, Tryz.ntmps132
  go_wp2_with fail
  refine (below_any B m _ hc (by omega) (by omega)).mono ?_
  rintro e w1 ⟨x, ⟨x0, x1⟩, rfl, c1, o1⟩
  obtain ⟨j, rfl⟩ : ∃ j : Nat, x = (j : Int) := ⟨x.toNat, by omega⟩
  obtain ⟨z, hz, hcz⟩ := HL.out.2 j (by omega)
  have hcz' : w1.cell? ⟨g, j, none⟩ = some (.int .i64 z) := (o1.cell HL.out.1 hg).trans hcz
  clear hcz
  go_wp2
  go_ret
  exact ⟨z, hz, rfl, c1, o1⟩
theorem pick_any (P : ByteArray → Prop) (B g m cap : Nat) (w : World) (hc : CurE w B) (hl : ListS P w g m) (hg : g ≠ B) (hm : 1 ≤ m) (hm2 : m ≤ 1048576) :
    Calls Tryz.prog 43 #[.pointer (some ⟨B, 0, none⟩), .slice (some ⟨g, 0, none⟩) m cap] w (GotS P B w) := by
  have HL := Lib.hid hl
  clear hl
  go_enter Tryz.func43, Tryz.ntmps43
  go_wp2_with fail
  refine (below_any B m _ hc (by omega) (by omega)).mono ?_
  rintro e w1 ⟨x, ⟨x0, x1⟩, rfl, c1, o1⟩
  obtain ⟨j, rfl⟩ : ∃ j : Nat, x = (j : Int) := ⟨x.toNat, by omega⟩
  obtain ⟨z, hz, hcz⟩ := HL.out.2 j (by omega)
  have hcz' : w1.cell? ⟨g, j, none⟩ = some (.string z) := (o1.cell HL.out.1 hg).trans hcz
  clear hcz
  go_wp2
  go_ret
  exact ⟨z, hz, rfl, c1, o1⟩
/-- The code that is drawn from: a slice of bytes. -/
def Code8 (w : World) (a : Option Addr) (n : Nat) : Prop := CodeOk w w.heap.size a n
theorem Code8.kept {w w' : World} {a : Option Addr} {n : Nat} (h : Code8 w a n) (hb : Below w.heap.size w w') : Code8 w' a n := CodeOk.kept h hb hb.size
theorem cur_new (a : Option Addr) (n cap : Nat) (H : Int) (T : TypeId) (w : World) (hn : n ≤ 1048576) (hc : Code8 w a n) :
    CurE (w.alloc (.cells #[.slice a n cap, .int .i64 0, .int .i64 H] T)) w.heap.size := by
  refine ⟨a, n, cap, 0, H, by simp, ?_, ?_, ?_, ?_, ?_, Nat.zero_le _, hn, CodeOk.kept hc ((Below.refl _ _).alloc (Nat.le_refl _) _) (Nat.le_refl _)⟩
  all_goals go_keep
set_option maxRecDepth 100000 in
set_option maxHeartbeats 1000000 in
theorem new_any (a : Option Addr) (n cap : Nat) (w : World) (hn : n ≤ 1048576) (hc : Code8 w a n) :
    Calls Tryz.prog 41 #[.slice a n cap] w fun e w' => e = .returned (.pointer (some ⟨w.heap.size, 0, none⟩)) ∧ CurE w' w.heap.size ∧ Below w.heap.size w w' := by
  have HC := Lib.hid hc
  clear hc
  go_enter Tryz.func41, Tryz.ntmps41
  go_wp2
  go_loop [3, 4] (fun hh i => ∃ (H : Int) (k : Nat), k ≤ n ∧ i = .int .i64 k ∧ hh = .int .i64 H) (fun _ i => n - (intOf i).toNat)
  case atStart => exact ⟨_, 0, Nat.zero_le _, rfl, rfl⟩
  case round =>
    obtain ⟨H, k, hk, rfl, rfl⟩ := hrel
    by_cases hlt : k < n
    · by_cases h4 : k < 4000
      · obtain ⟨b, off, c, rfl, hbB, hcc, c0, c1⟩ := HC.out k hlt
        go_wp2
        go_round
        case rel => exact ⟨_, k + 1, by omega, by go_num, rfl⟩
        case measure => simp [intOf]; omega
      · go_wp2
        go_ret
        exact ⟨rfl, cur_new a n cap H _ w hn HC.out, (Below.refl _ _).alloc (Nat.le_refl _) _⟩
    · go_wp2
      go_ret
      exact ⟨rfl, cur_new a n cap H _ w hn HC.out, (Below.refl _ _).alloc (Nat.le_refl _) _⟩
end Go.Proofs.YtebeoijoljlhiaaGreatDoor.kit
/-
  Plain facts on the states of the draws' cursor: how far it is till a byte comes that adds to a text. Of no program. Conditions: each theorem names its own.
-/
namespace Go.Proofs.YtebeoijoljlhiaaGreatDoor.kit
open Go.RowKit
set_option linter.unusedVariables false

def gS (x : Nat) : Nat := (6364136223846793005 * x + 1442695040888963407) % 18446744073709551616
theorem gS_seq : Seq64 gS 18446744073709551616 := ⟨fun _ => rfl, rfl⟩
/-- A state as a number below 2^64. -/
def st (h : Int) : Nat := (h % 18446744073709551616).toNat
theorem st_lt (h : Int) : st h < 18446744073709551616 := by unfold st; omega
theorem wrap64_mod (n : Int) : wrap64 n % 18446744073709551616 = n % 18446744073709551616 := by unfold wrap64; omega
theorem wrap64_bd (n : Int) : -9223372036854775808 ≤ wrap64 n ∧ wrap64 n ≤ 9223372036854775807 := by unfold wrap64; omega
theorem lin_mod (A C M h : Int) : (h * A + C) % M = (h % M * A + C) % M := by
  rw [Int.add_emod (h * A), Int.mul_emod h A M, Int.add_emod (h % M * A), Int.mul_emod (h % M) A M, Int.emod_emod]
theorem two_mod {f : Int → Int} {M : Int} (hf : ∀ n, f n % M = n % M) (A C h : Int) : f (f (h * A) + C) % M = (h % M * A + C) % M := by
  rw [hf, Int.add_emod, hf, ← Int.add_emod, lin_mod]
theorem nat_mod (a c m y : Nat) : ((y : Int) * (a : Int) + (c : Int)) % (m : Int) = (((a * y + c) % m : Nat) : Int) := by
  rw [Int.natCast_emod, Int.natCast_add, Int.natCast_mul, Int.mul_comm (y : Int)]
theorem st_cast (h : Int) : (st h : Int) = h % 18446744073709551616 := by
  have : 0 ≤ h % 18446744073709551616 := Int.emod_nonneg _ (by decide)
  unfold st
  exact Int.toNat_of_nonneg this
theorem next_mod (h : Int) : nextH h % 18446744073709551616 = (h % 18446744073709551616 * 6364136223846793005 + 1442695040888963407) % 18446744073709551616 := two_mod wrap64_mod _ _ h
theorem st_next (h : Int) : st (nextH h) = gS (st h) := by
  have h1 := next_mod h
  rw [← st_cast (nextH h), ← st_cast h] at h1
  have h2 := nat_mod 6364136223846793005 1442695040888963407 18446744073709551616 (st h)
  simp only [Int.cast_ofNat_Int] at h2
  have h3 : ((st (nextH h) : Nat) : Int) = ((gS (st h) : Nat) : Int) := by rw [h1, h2, gS]
  exact Int.ofNat.inj h3
theorem next_bd (h : Int) : -9223372036854775808 ≤ nextH h ∧ nextH h ≤ 9223372036854775807 := wrap64_bd _
theorem st_inj {x v : Int} (hx : -9223372036854775808 ≤ x ∧ x ≤ 9223372036854775807) (hv : -9223372036854775808 ≤ v ∧ v ≤ 9223372036854775807) (e : st x = st v) : x = v := by
  have e' : ((st x : Nat) : Int) = ((st v : Nat) : Int) := by rw [e]
  rw [st_cast, st_cast] at e'
  omega
/-- The byte behind a state adds to a text. -/
def good (h : Int) : Prop := bt (nextH h) % 5 = 0 ∨ bt (nextH h) % 5 = 3 ∨ bt (nextH h) % 5 = 4
def z1 : Nat := 15462296684244204215
def z2 : Nat := 6702960577162501242
theorem gS_0 : gS 8 = z1 := by decide +kernel
theorem gS_1 : gS z1 = z2 := by decide +kernel
theorem good_0 {h : Int} (e : st h = 8) : good h := by
  have e1 : nextH h = -2984447389465347401 := st_inj (next_bd h) (by decide) (by rw [st_next, e]; decide +kernel)
  left; rw [e1]; decide +kernel
theorem good_1 {h : Int} (e : st h = z1) : good h := by
  have e1 : nextH h = 6702960577162501242 := st_inj (next_bd h) (by decide) (by rw [st_next, e]; decide +kernel)
  right; right; rw [e1]; decide +kernel
theorem good_2 {h : Int} (e : st h = z2) : good h := by
  have e1 : nextH h = -929496508085319487 := st_inj (next_bd h) (by decide) (by rw [st_next, e]; decide +kernel)
  right; right; rw [e1]; decide +kernel
theorem reach8 (x : Nat) (hx : x < 18446744073709551616) : ∃ t, t < 18446744073709551616 ∧ itN gS t x = 8 := gS_seq.reach 8 x (by decide) hx
theorem reach8' (h : Int) : ∃ t, itN gS t (st h) = 8 := by
  obtain ⟨t, _, e⟩ := reach8 (st h) (st_lt h)
  exact ⟨t, e⟩
open Classical in
/-- How far a state is from one that adds to a text. -/
noncomputable def mS (h : Int) : Nat := if st h = z1 ∨ st h = z2 then 0 else dist gS 8 (st h) + 1
def bigD : Nat := 18446744073709551618
theorem mS_lt (h : Int) : mS h < bigD := by
  obtain ⟨t, ht, e⟩ := reach8 (st h) (st_lt h)
  have := dist_le e
  unfold mS bigD
  split <;> omega
theorem mS_near {h : Int} (e : st h = z1 ∨ st h = z2) : mS h = 0 := by unfold mS; rw [if_pos e]
theorem mS_far {h : Int} (e : ¬ (st h = z1 ∨ st h = z2)) : mS h = dist gS 8 (st h) + 1 := by unfold mS; rw [if_neg e]
theorem not_near {h : Int} (hg : ¬ good h) : st h ≠ 8 ∧ ¬ (st h = z1 ∨ st h = z2) :=
  ⟨fun e => hg (good_0 e), fun e => e.elim (fun e => hg (good_1 e)) (fun e => hg (good_2 e))⟩
theorem near1 {h : Int} (h8 : st h ≠ 8) : dist gS 8 (st (nextH h)) + 1 = dist gS 8 (st h) := by
  rw [st_next]; exact dist_step (reach8' h) h8
theorem step1 {h : Int} (hg : ¬ good h) : mS (nextH h) < mS h := by
  obtain ⟨h8, hn⟩ := not_near hg
  rw [mS_far hn]
  by_cases e : st (nextH h) = z1 ∨ st (nextH h) = z2
  · rw [mS_near e]; omega
  · rw [mS_far e]; have := near1 h8; omega
theorem step3 {h : Int} (hg : ¬ good h) : mS (nextH (nextH (nextH h))) < mS h := by
  obtain ⟨h8, hn⟩ := not_near hg
  rw [mS_far hn]
  by_cases e : st (nextH (nextH (nextH h))) = z1 ∨ st (nextH (nextH (nextH h))) = z2
  · rw [mS_near e]; omega
  · rw [mS_far e]
    have n1 := near1 h8
    by_cases a1 : st (nextH h) = 8
    · exact absurd (Or.inr (by rw [st_next, st_next, a1, gS_0, gS_1])) e
    · have n2 := near1 a1
      by_cases a2 : st (nextH (nextH h)) = 8
      · exact absurd (Or.inl (by rw [st_next, a2, gS_0])) e
      · have n3 := near1 a2
        omega
/-- What every round of the loop lowers: the bytes that are lacking, the code's bytes that are left, the way to a byte that adds. -/
noncomputable def mu (lack left : Nat) (h : Int) : Nat := lack * (1048577 * bigD) + (left * bigD + mS h)
theorem mu_part (left : Nat) (h : Int) (hl : left ≤ 1048576) : left * bigD + mS h < 1048577 * bigD := by
  have h1 := mS_lt h
  have h2 : (left + 1) * bigD ≤ 1048577 * bigD := Nat.mul_le_mul_right _ (by omega)
  rw [Nat.add_mul, Nat.one_mul] at h2
  omega
theorem mu_lack {a b c d : Nat} {x y : Int} (h : a < c) (hb : b ≤ 1048576) : mu a b x < mu c d y := by
  have h1 := mu_part b x hb
  have h2 : (a + 1) * (1048577 * bigD) ≤ c * (1048577 * bigD) := Nat.mul_le_mul_right _ h
  rw [Nat.add_mul, Nat.one_mul] at h2
  unfold mu
  generalize 1048577 * bigD = q at *
  omega
theorem mu_left {a b d : Nat} {x y : Int} (h : b < d) : mu a b x < mu a d y := by
  have h1 := mS_lt x
  have h2 : (b + 1) * bigD ≤ d * bigD := Nat.mul_le_mul_right _ h
  rw [Nat.add_mul, Nat.one_mul] at h2
  unfold mu
  omega
theorem mu_near {a b : Nat} {x y : Int} (h : mS x < mS y) : mu a b x < mu a b y := by unfold mu; omega
end Go.Proofs.YtebeoijoljlhiaaGreatDoor.kit
