/-
 Contracts of the draws' cursor over this seat's translation, in short: what is drawn lies in its range, the cursor stays one, and nothing else turns. Conditions: the cursor is one; a list to pick from is known, and lies in a block of its own.
-/
import Derived.Test.YtcpaneaiobnhdaaDoorMCur
import Derived.Deep.RegionHeld3
import Derived.IntWalk
namespace Go.Proofs.YtcpaneaiobnhdaaDoor.kit
open Go.ChangeShapes Go.WideShapes Go.ChangeAt Go.RowKit
set_option linter.unusedVariables false

def CurE (w : World) (B : Nat) : Prop := ∃ (a : Option Addr) (n cap i : Nat) (h : Int), Cur w B a n cap i h
theorem CurE.lt {w : World} {B : Nat} (h : CurE w B) : B < w.heap.size := by obtain ⟨_, _, _, _, _, c⟩ := h; exact c.lt
theorem CurE.kept {w w' : World} {B C : Nat} (h : CurE w B) (hb : Below C w w') (hC : B < C) : CurE w' B := by
 obtain ⟨a, n, cap, i, h, c⟩ := h
 exact ⟨a, n, cap, i, h, Nat.lt_of_lt_of_le c.lt hb.size, (hb.cell (p := ⟨B, 0, none⟩) hC).trans c.c0, (hb.cell (p := ⟨B, 1, none⟩) hC).trans c.c1, (hb.cell (p := ⟨B, 2, none⟩) hC).trans c.c2, (hb.frozen (p := ⟨B, 1, none⟩) hC).trans c.f1, (hb.frozen (p := ⟨B, 2, none⟩) hC).trans c.f2, c.le, c.nle, fun j hj => by
  obtain ⟨b, off, x, e, h1, h2, h3⟩ := c.code j hj
  exact ⟨b, off, x, e, h1, (hb.cell (p := ⟨b, off + j, none⟩) (Nat.lt_trans h1 hC)).trans h2, h3⟩⟩
theorem OnlyB.cellAt {B : Nat} {w w' : World} (h : OnlyB B w w') {g o : Nat} (hg : g < w.heap.size) (hn : g ≠ B) : w'.cell? ⟨g, o, none⟩ = w.cell? ⟨g, o, none⟩ :=
 World.cell?_of_block (h.block g hg (by simpa using fun e => hn e))
def GotI (P : Int → Prop) (B : Nat) (w : World) (e : Ending) (w' : World) : Prop := ∃ x : Int, P x ∧ e = .returned (.int .i64 x) ∧ CurE w' B ∧ OnlyB B w w'
def GotB (B : Nat) (w : World) (e : Ending) (w' : World) : Prop := ∃ b : Bool, e = .returned (.bool b) ∧ CurE w' B ∧ OnlyB B w w'
def GotS (P : ByteArray → Prop) (B : Nat) (w : World) (e : Ending) (w' : World) : Prop := ∃ s : ByteArray, P s ∧ e = .returned (.string s) ∧ CurE w' B ∧ OnlyB B w w'
theorem byte_some (B : Nat) (w : World) (hc : CurE w B) :
  Calls Tryd.prog 48 #[.pointer (some ⟨B, 0, none⟩)] w (GotI (fun x => 0 ≤ x ∧ x ≤ 255) B w) := by
 obtain ⟨a, n, cap, i, h, c⟩ := hc
 exact (byte_any B a n cap i h w c).mono fun e w' ⟨x, i', h0, h1, he, c', _, ho⟩ => ⟨x, ⟨h0, h1⟩, he, ⟨_, _, _, _, _, c'⟩, ho⟩
set_option maxHeartbeats 400000 in
theorem below_any (B : Nat) (k : Int) (w : World) (hc : CurE w B) (hk : 1 ≤ k) (hk2 : k ≤ 9223372036854775807) :
  Calls Tryd.prog 32 #[.pointer (some ⟨B, 0, none⟩), .int .i64 k] w (GotI (fun x => 0 ≤ x ∧ x < k) B w) := by
 by_cases h6 : k ≤ 256
 ·go_enter Tryd.func32, Tryd.ntmps32
  go_wp2_with fail
  refine (byte_some B _ hc).mono ?_
  rintro e w1 ⟨x, ⟨x0, x1⟩, rfl, c1, o1⟩
  go_wp2
  go_ret
  exact ⟨_, ⟨Int.emod_nonneg _ (by omega), Int.emod_lt_of_pos _ (by omega)⟩, rfl, c1, o1⟩
 ·go_enter Tryd.func32, Tryd.ntmps32
  go_wp2_with fail
  refine (byte_some B _ hc).mono ?_
  rintro e w1 ⟨x, ⟨x0, x1⟩, rfl, c1, o1⟩
  go_wp2_with fail
  refine (byte_some B _ c1).mono ?_
  rintro e w2 ⟨y, ⟨y0, y1⟩, rfl, c2, o2⟩
  go_wp2_with fail
  refine (byte_some B _ c2).mono ?_
  rintro e w3 ⟨z, ⟨z0, z1⟩, rfl, c3, o3⟩
  go_wp2_with fail
  refine (byte_some B _ c3).mono ?_
  rintro e w4 ⟨v, ⟨v0, v1⟩, rfl, c4, o4⟩
  go_wp2
  go_ret
  exact ⟨_, ⟨Int.emod_nonneg _ (by omega), Int.emod_lt_of_pos _ (by omega)⟩, rfl, c4, o1.trans (o2.trans (o3.trans o4))⟩
theorem once_any (B : Nat) (k : Int) (w : World) (hc : CurE w B) (hk : 1 ≤ k) (hk2 : k ≤ 9223372036854775807) :
  Calls Tryd.prog 20 #[.pointer (some ⟨B, 0, none⟩), .int .i64 k] w (GotB B w) := by
 go_enter Tryd.func20, Tryd.ntmps20
 go_wp2_with fail
 refine (below_any B k _ hc hk hk2).mono ?_
 rintro e w1 ⟨x, ⟨x0, x1⟩, rfl, c1, o1⟩
 go_wp2
 go_ret
 exact ⟨_, rfl, c1, o1⟩
/-- A list in a block of its own. -/
def ListI (P : Int → Prop) (w : World) (g m : Nat) : Prop := g < w.heap.size ∧ ∀ j, j < m → ∃ z, P z ∧ w.cell? ⟨g, j, none⟩ = some (.int .i64 z)
def ListS (P : ByteArray → Prop) (w : World) (g m : Nat) : Prop := g < w.heap.size ∧ ∀ j, j < m → ∃ z, P z ∧ w.cell? ⟨g, j, none⟩ = some (.string z)
theorem pickInt_any (P : Int → Prop) (B g m cap : Nat) (w : World) (hc : CurE w B) (hl : ListI P w g m) (hg : g ≠ B) (hm : 1 ≤ m) (hm2 : m ≤ 1048576) :
  Calls Tryd.prog 33 #[.pointer (some ⟨B, 0, none⟩), .slice (some ⟨g, 0, none⟩) m cap] w (GotI P B w) := by
 have HL := Lib.hid hl
 clear hl
 go_enter Tryd.func33, Tryd.ntmps33
 go_wp2_with fail
 refine (below_any B m _ hc (by omega) (by omega)).mono ?_
 rintro e w1 ⟨x, ⟨x0, x1⟩, rfl, c1, o1⟩
 obtain ⟨j, rfl⟩ : ∃ j : Nat, x = (j : Int) := ⟨x.toNat, by omega⟩
 obtain ⟨z, hz, hcz⟩ := HL.out.2 j (by omega)
 have hcz' : w1.cell? ⟨g, j, none⟩ = some (.int .i64 z) := (o1.cellAt HL.out.1 hg).trans hcz
 clear hcz
 go_wp2
 go_ret
 exact ⟨z, hz, rfl, c1, o1⟩
theorem pick_any (P : ByteArray → Prop) (B g m cap : Nat) (w : World) (hc : CurE w B) (hl : ListS P w g m) (hg : g ≠ B) (hm : 1 ≤ m) (hm2 : m ≤ 1048576) :
  Calls Tryd.prog 21 #[.pointer (some ⟨B, 0, none⟩), .slice (some ⟨g, 0, none⟩) m cap] w (GotS P B w) := by
 have HL := Lib.hid hl
 clear hl
 go_enter Tryd.func21, Tryd.ntmps21
 go_wp2_with fail
 refine (below_any B m _ hc (by omega) (by omega)).mono ?_
 rintro e w1 ⟨x, ⟨x0, x1⟩, rfl, c1, o1⟩
 obtain ⟨j, rfl⟩ : ∃ j : Nat, x = (j : Int) := ⟨x.toNat, by omega⟩
 obtain ⟨z, hz, hcz⟩ := HL.out.2 j (by omega)
 have hcz' : w1.cell? ⟨g, j, none⟩ = some (.string z) := (o1.cellAt HL.out.1 hg).trans hcz
 clear hcz
 go_wp2
 go_ret
 exact ⟨z, hz, rfl, c1, o1⟩
/-- The code that is drawn from: a slice of bytes. -/
def Code8 (w : World) (a : Option Addr) (n : Nat) : Prop := CodeOk w w.heap.size a n
theorem Code8.kept {w w' : World} {a : Option Addr} {n : Nat} (h : Code8 w a n) (hb : Below w.heap.size w w') : Code8 w' a n := CodeOk.kept h hb hb.size
theorem cur_new (a : Option Addr) (n cap : Nat) (H : Int) (T : TypeId) (w : World) (hn : n ≤ 1048576) (hc : Code8 w a n) :
  CurE (w.alloc (.cells #[.slice a n cap, .int .i64 0, .int .i64 H] T)) w.heap.size := by
 refine ⟨a, n, cap, 0, H, by simp, ?_, ?_, ?_, ?_, ?_, Nat.zero_le _, hn, CodeOk.kept hc ((Below.refl _ _).alloc (Nat.le_refl _) _) (Nat.le_refl _)⟩
 all_goals go_keep
set_option maxRecDepth 100000 in
set_option maxHeartbeats 1000000 in
theorem new_any (a : Option Addr) (n cap : Nat) (w : World) (hn : n ≤ 1048576) (hc : Code8 w a n) :
  Calls Tryd.prog 19 #[.slice a n cap] w fun e w' => e = .returned (.pointer (some ⟨w.heap.size, 0, none⟩)) ∧ CurE w' w.heap.size ∧ Below w.heap.size w w' := by
 have HC := Lib.hid hc
 clear hc
 go_enter Tryd.func19, Tryd.ntmps19
 go_wp2
 go_loop [3, 4] (fun hh i => ∃ (H : Int) (k : Nat), k ≤ n ∧ i = .int .i64 k ∧ hh = .int .i64 H) (fun _ i => n - (intOf i).toNat)
 case atStart => exact ⟨_, 0, Nat.zero_le _, rfl, rfl⟩
 case round =>
  obtain ⟨H, k, hk, rfl, rfl⟩ := hrel
  by_cases hlt : k < n
  ·by_cases h4 : k < 4000
   ·obtain ⟨b, off, c, rfl, hbB, hcc, c0, c1⟩ := HC.out k hlt
    go_wp2
    go_round
    case rel => exact ⟨_, k + 1, by omega, by go_num, rfl⟩
    case measure => simp [intOf]; omega
   ·go_wp2
    go_ret
    exact ⟨rfl, cur_new a n cap H _ w hn HC.out, (Below.refl _ _).alloc (Nat.le_refl _) _⟩
  ·go_wp2
   go_ret
   exact ⟨rfl, cur_new a n cap H _ w hn HC.out, (Below.refl _ _).alloc (Nat.le_refl _) _⟩
end Go.Proofs.YtcpaneaiobnhdaaDoor.kit
/-
 Contracts of what draws numbers over this seat's translation: spec.l02Num, spec.l02Two. Conditions: the cursor is one; the code's bytes are known.
-/
namespace Go.Proofs.YtcpaneaiobnhdaaDoor.kit
open Go.ChangeShapes Go.WideShapes Go.ChangeAt Go.RowKit
set_option linter.unusedVariables false

def I64 (x : Int) : Prop := -9223372036854775808 ≤ x ∧ x ≤ 9223372036854775807
theorem OnlyB.alloc {B : Nat} {w w' : World} (h : OnlyB B w w') (o : Obj) : OnlyB B w (w'.alloc o) :=
 h.trans ⟨rfl, rfl, rfl, by simp, fun j hj _ => ((Below.refl w'.heap.size w').alloc (Nat.le_refl _) o).block j hj⟩
theorem CurE.alloc {w : World} {B : Nat} (h : CurE w B) (o : Obj) : CurE (w.alloc o) B := h.kept (C := w.heap.size) ((Below.refl _ _).alloc (Nat.le_refl _) o) h.lt
theorem listI_alloc {P : Int → Prop} (zs : List Int) (T : TypeId) (w : World) (cs : Array Value) (e : cs = (zs.map (Value.int .i64)).toArray) (hP : ∀ z ∈ zs, P z) : ListI P (w.alloc (.cells cs T)) w.heap.size zs.length := by
 refine ⟨by simp, fun j hj => ⟨zs[j], hP _ (List.getElem_mem hj), ?_⟩⟩
 rw [World.cell?_alloc_new, e]
 simp [hj]
theorem listS_alloc {P : ByteArray → Prop} (zs : List ByteArray) (T : TypeId) (w : World) (cs : Array Value) (e : cs = (zs.map Value.string).toArray) (hP : ∀ z ∈ zs, P z) : ListS P (w.alloc (.cells cs T)) w.heap.size zs.length := by
 refine ⟨by simp, fun j hj => ⟨zs[j], hP _ (List.getElem_mem hj), ?_⟩⟩
 rw [World.cell?_alloc_new, e]
 simp [hj]
def GotII (w : World) (e : Ending) (w' : World) : Prop := ∃ x y : Int, I64 x ∧ I64 y ∧ e = .returned (.tuple #[.int .i64 x, .int .i64 y]) ∧ Below w.heap.size w w'
end Go.Proofs.YtcpaneaiobnhdaaDoor.kit
/-
 Contract of spec.l01Bent over this seat's translation: a text that is at most two bytes longer. Conditions: the cursor is one; the text has at most 1048576 bytes.
-/
namespace Go.Proofs.YtcpaneaiobnhdaaDoor.kit
open Go.ChangeShapes Go.WideShapes Go.ChangeAt Go.RowKit
set_option linter.unusedVariables false

/-- The cursor in block B goes on, and nothing else has turned since w. -/
def CurS (B : Nat) (w w' : World) : Prop := CurE w' B ∧ OnlyB B w w'
theorem CurS.drew {B : Nat} {w w' : World} (h : CurS B w w') : CurS B w w'.drew := ⟨h.1.kept (C := w'.heap.size) (Below.refl _ _).drew h.1.lt, h.2.drewN 1⟩
theorem CurS.alloc {B : Nat} {w w' : World} (h : CurS B w w') (o : Obj) : CurS B w (w'.alloc o) := ⟨h.1.alloc o, h.2.alloc o⟩
theorem CurS.step {B : Nat} {w W w' : World} (h : CurS B w W) (c : CurE w' B) (o : OnlyB B W w') : CurS B w w' := ⟨c, h.2.trans o⟩
theorem CurS.ne {B : Nat} {w w' : World} (h : CurS B w w') : w'.heap.size ≠ B := by have := h.1.lt; omega
theorem CurS.cur {B : Nat} {w w' : World} (h : CurS B w w') : CurE w' B := h.1
theorem CurS.only {B : Nat} {w w' : World} (h : CurS B w w') : OnlyB B w w' := h.2
def Short (k : Nat) (z : ByteArray) : Prop := z.size ≤ k
theorem ListS.drew {P : ByteArray → Prop} {w : World} {g m : Nat} (h : ListS P w g m) : ListS P w.drew g m := h
theorem ListI.drew {P : Int → Prop} {w : World} {g m : Nat} (h : ListI P w g m) : ListI P w.drew g m := h
def l10 : List ByteArray := [⟨#[48]⟩, ⟨#[32]⟩, ⟨#[255]⟩, ⟨#[34]⟩, ⟨#[10]⟩, ⟨#[97]⟩, ⟨#[44]⟩, ⟨#[61]⟩, ⟨#[41]⟩, ⟨#[36]⟩]
theorem l10_short : ∀ z ∈ l10, Short 1 z := by unfold l10 Short; decide
def l6 : List ByteArray := [⟨#[48]⟩, ⟨#[65]⟩, ⟨#[0]⟩, ⟨#[57]⟩, ⟨#[93]⟩, ⟨#[92]⟩]
theorem l6_short : ∀ z ∈ l6, Short 1 z := by unfold l6 Short; decide
set_option maxRecDepth 100000 in
set_option maxHeartbeats 1000000 in
theorem bent_any (B : Nat) (s : ByteArray) (w : World) (hc : CurE w B) (hs : s.size ≤ 1048576) :
  Calls Tryd.prog 22 #[.pointer (some ⟨B, 0, none⟩), .string s] w (GotS (Short (s.size + 1)) B w) := by
 go_enter Tryd.func22, Tryd.ntmps22
 go_wp2_with fail
 refine (below_any B (s.size + 1) _ hc (by omega) (by omega)).mono ?_
 rintro e w1 ⟨x, ⟨x0, x1⟩, rfl, c1, o1⟩
 obtain ⟨i, rfl⟩ : ∃ i : Nat, x = (i : Int) := ⟨x.toNat, by omega⟩
 have x2 : (i : Int) ≤ (s.size : Int) := by omega
 have hi : i ≤ s.size := by omega
 go_wp2_with fail
 refine (below_any B 8 _ c1 (by omega) (by omega)).mono ?_
 rintro e w2 ⟨y, ⟨y0, y1⟩, rfl, c2, o2⟩
 have S2 : CurS B w w2 := ⟨c2, o1.trans o2⟩
 have HS := Lib.hid S2
 have n2 := S2.ne
 by_cases h0 : y = 0
 ·subst h0
  go_wp2
  go_ret
  exact ⟨_, by simp only [Short, ByteArray.size_extract]; omega, rfl, HS.out.1, HS.out.2⟩
 ·have e0 : (y == 0) = false := by simpa using h0
  by_cases h1 : y = 1
  ·subst h1
   go_wp2
   go_region_held3 (fun w' => CurS B w w') (first | assumption | exact CurS.drew (by assumption) | exact CurS.alloc (by assumption) _ | exact CurS.step (by assumption) (by assumption) (by assumption)) (first | (go_at_call 21; refine (pick_any (Short 1) B _ 10 _ _ (CurS.cur (w := w) (by assumption)) (ListS.drew (listS_alloc l10 _ _ _ rfl l10_short)) n2 (by omega) (by omega)).mono ?_; rintro e w3 ⟨z, hz, rfl, c3, o3⟩; have hz1 : z.size ≤ 1 := hz; have q1 : ¬ 9223372036854775807 < i + z.size := (by omega); have q2 : ¬ 9223372036854775807 < i + z.size + (s.size - i) := (by omega)))
   all_goals
    go_wp2
    go_ret
    refine ⟨_, ?_, rfl, CurS.cur (w := w) (by assumption), CurS.only (by assumption)⟩
    simp only [Short, ByteArray.size_append, ByteArray.size_extract]
    omega
  ·have e1 : (y == 1) = false := by simpa using h1
   by_cases h2 : y = 2
   ·subst h2
    by_cases hlt : i < s.size
    ·have x3 : (i : Int) < (s.size : Int) := by omega
     have x4 : (i : Int) + 1 ≤ (s.size : Int) := by omega
     have w5 : IntKind.i64.wrap ((i : Int) + 1) = (i : Int) + 1 := IntWalk.i64_in _ (by omega)
     have w6 : (0 : Int) ≤ (i : Int) + 1 := by omega
     have w7 : ((i : Int) + 1).toNat = i + 1 := by omega
     go_wp2
     go_region_held3 (fun w' => CurS B w w') (first | assumption | exact CurS.drew (by assumption) | exact CurS.alloc (by assumption) _ | exact CurS.step (by assumption) (by assumption) (by assumption)) (first | (go_at_call 21; refine (pick_any (Short 1) B _ 6 _ _ (CurS.cur (w := w) (by assumption)) (ListS.drew (listS_alloc l6 _ _ _ rfl l6_short)) n2 (by omega) (by omega)).mono ?_; rintro e w3 ⟨z, hz, rfl, c3, o3⟩; have hz1 : z.size ≤ 1 := hz; have q1 : ¬ 9223372036854775807 < i + z.size := (by omega); have q2 : ¬ 9223372036854775807 < i + z.size + (s.size - (i + 1)) := (by omega)))
     all_goals
      clear w5 w7
      go_wp2
      go_ret
      refine ⟨_, ?_, rfl, CurS.cur (w := w) (by assumption), CurS.only (by assumption)⟩
      simp only [Short, ByteArray.size_append, ByteArray.size_extract]
      omega
    ·go_wp2
     go_ret
     exact ⟨_, by simp only [Short]; omega, rfl, HS.out.1, HS.out.2⟩
   ·have e2 : (y == 2) = false := by simpa using h2
    go_wp2
    go_ret
    exact ⟨_, by simp only [Short]; omega, rfl, HS.out.1, HS.out.2⟩
end Go.Proofs.YtcpaneaiobnhdaaDoor.kit
