/-
  Contract of spec.l01Byte, the draws' cursor, over this seat's translation: it tells a number of 0 .. 255, goes on by one state, and turns nothing but the cursor. Conditions: the cursor and the bytes that it goes over are known.
-/
import Derived.Test.YtcimhpdpfckgiaaGreatDoorMxInfo
import Derived.Test.YtcimhpdpfckgiaaGreatDoorMxKit
import Derived.Deep.QuietTactic
import Derived.BigQuiet
import Derived.IntWalk
import Derived.Deep.RegionHeld3
import Derived.ChangeSlices
set_option linter.unusedVariables false
open Go.ChangeShapes Go.WideShapes Go.ChangeAt Go.RowKit
namespace Go.Proofs.YtcimhpdpfckgiaaGreatDoor.kit
def CodeOk (w : World) (B : Nat) (a : Option Addr) (n : Nat) : Prop :=
 ∀ j, j < n → ∃ (b off : Nat) (c : Int), a = some ⟨b, off, none⟩ ∧ b < B ∧ w.cell? ⟨b, off + j, none⟩ = some (.int .u8 c) ∧ 0 ≤ c ∧ c ≤ 255
theorem below_drewK {B : Nat} {a w : World} (h : Below B a w) (n : Nat) : Below B a (w.drewN n) := ⟨h.os, h.tape, h.output, h.size, h.block⟩
theorem CodeOk.kept {w w' : World} {B C : Nat} {a : Option Addr} {n : Nat} (h : CodeOk w B a n) (hb : Below B w w') (hC : B ≤ C) : CodeOk w' C a n := by
 intro j hj
 obtain ⟨b, off, c, e, h1, h2, h3⟩ := h j hj
 exact ⟨b, off, c, e, Nat.lt_of_lt_of_le h1 hC, (hb.cell (p := ⟨b, off + j, none⟩) h1).trans h2, h3⟩
structure Cur (w : World) (B : Nat) (a : Option Addr) (n cap : Nat) (i : Nat) (h : Int) : Prop where
 lt : B < w.heap.size
 c0 : w.cell? ⟨B, 0, none⟩ = some (.slice a n cap)
 c1 : w.cell? ⟨B, 1, none⟩ = some (.int .i64 (i : Int))
 c2 : w.cell? ⟨B, 2, none⟩ = some (.int .i64 h)
 f1 : w.frozen? ⟨B, 1, none⟩ = false
 f2 : w.frozen? ⟨B, 2, none⟩ = false
 le : i ≤ n
 nle : n ≤ 1048576
 code : CodeOk w B a n
def OnlyB (B : Nat) (w w' : World) : Prop := w.grownBy w' (some B)
theorem OnlyB.below {B : Nat} {w w' : World} (h : OnlyB B w w') (hB : B < w.heap.size) : Below B w w' :=
 Below.grown (Below.refl _ _) h (Nat.le_of_lt hB) (fun k e => by cases e; exact Nat.le_refl _)
theorem OnlyB.drewN {B : Nat} {w w' : World} (h : OnlyB B w w') (n : Nat) : OnlyB B w (w'.drewN n) := ⟨h.os, h.tape, h.output, h.size, h.block⟩
theorem OnlyB.refl (B : Nat) (w : World) : OnlyB B w w := World.grownBy.refl w _
theorem OnlyB.trans {B : Nat} {x y z : World} (h : OnlyB B x y) (k : OnlyB B y z) : OnlyB B x z :=
 ⟨k.os.trans h.os, k.tape.trans h.tape, k.output.trans h.output, Nat.le_trans h.size k.size, fun j hj hn => (k.block j (Nat.lt_of_lt_of_le hj h.size) hn).trans (h.block j hj hn)⟩
theorem OnlyB.set {B : Nat} {w w' : World} (h : OnlyB B w w') (o : Nat) (v : Value) : OnlyB B w (w'.setCell ⟨B, o, none⟩ v) :=
 h.trans ⟨rfl, rfl, rfl, by simp, fun j _ hn => Below.heap_setCell _ _ _ j (fun e => hn (by rw [e]))⟩
theorem and255 (n : Int) : bits .and .i64 n 255 = n % 256 := by
 have h255 : (BitVec.ofInt 64 255).toNat = 2 ^ 8 - 1 := by decide
 have key : (BitVec.ofInt 64 n &&& BitVec.ofInt 64 255).toNat = (n % ((2 ^ 64 : Nat) : Int)).toNat % 2 ^ 8 := by
  rw [BitVec.toNat_and, BitVec.toNat_ofInt, h255, Nat.and_two_pow_sub_one_eq_mod]
 show IntKind.i64.wrap ((BitVec.ofInt 64 n &&& BitVec.ofInt 64 255).toNat : Nat) = n % 256
 rw [key, IntKind.wrap_i64]
 omega
def nextH (h : Int) : Int := wrap64 (wrap64 (h * 6364136223846793005) + 1442695040888963407)
def bt (H : Int) : Int := (bits .xor .i64 (H / 8589934592) (H / 35184372088832)) % 256
theorem bt_bd (H : Int) : 0 ≤ bt H ∧ bt H ≤ 255 := by unfold bt; omega
def BPost (B : Nat) (a : Option Addr) (n cap i : Nat) (h : Int) (w : World) (e : Ending) (w' : World) : Prop :=
 ∃ (x : Int) (i' : Nat), 0 ≤ x ∧ x ≤ 255 ∧ e = .returned (.int .i64 x) ∧ Cur w' B a n cap i' (nextH h) ∧ (i < n ∧ i' = i + 1 ∨ i = n ∧ i' = n ∧ x = bt (nextH h)) ∧ OnlyB B w w'
theorem Cur.setH {w : World} {B : Nat} {a : Option Addr} {n cap i : Nat} {h : Int} (c : Cur w B a n cap i h) (H : Int) (k : Nat) : Cur ((w.setCell ⟨B, 2, none⟩ (.int .i64 H)).drewN k) B a n cap i H := by
 have hb : Below B w (w.setCell ⟨B, 2, none⟩ (.int .i64 H)) := (Below.refl B w).setCell (Nat.le_refl _) _
 refine ⟨by simpa using c.lt, ?_, ?_, ?_, ?_, ?_, c.le, c.nle, c.code.kept (below_drewK hb k) (Nat.le_refl _)⟩
 · exact (World.cell?_setCell_other w _ _ _ (by intro x; cases x)).trans c.c0
 · exact (World.cell?_setCell_other w _ _ _ (by intro x; cases x)).trans c.c1
 · exact World.cell?_setCell_same w _ _ c.c2
 · exact (World.frozen?_setCell ..).trans c.f1
 · exact (World.frozen?_setCell ..).trans c.f2
theorem Cur.setI {w : World} {B : Nat} {a : Option Addr} {n cap i : Nat} {h : Int} (c : Cur w B a n cap i h) (j : Nat) (hj : j ≤ n) (k : Nat) : Cur ((w.setCell ⟨B, 1, none⟩ (.int .i64 (j : Int))).drewN k) B a n cap j h := by
 have hb : Below B w (w.setCell ⟨B, 1, none⟩ (.int .i64 (j : Int))) := (Below.refl B w).setCell (Nat.le_refl _) _
 refine ⟨by simpa using c.lt, ?_, ?_, ?_, ?_, ?_, hj, c.nle, c.code.kept (below_drewK hb k) (Nat.le_refl _)⟩
 · exact (World.cell?_setCell_other w _ _ _ (by intro x; cases x)).trans c.c0
 · exact World.cell?_setCell_same w _ _ c.c1
 · exact (World.cell?_setCell_other w _ _ _ (by intro x; cases x)).trans c.c2
 · exact (World.frozen?_setCell ..).trans c.f1
 · exact (World.frozen?_setCell ..).trans c.f2
theorem Cur.drewN {w : World} {B : Nat} {a : Option Addr} {n cap i : Nat} {h : Int} (c : Cur w B a n cap i h) (k : Nat) : Cur (w.drewN k) B a n cap i h :=
 ⟨c.lt, c.c0, c.c1, c.c2, c.f1, c.f2, c.le, c.nle, c.code⟩
set_option maxHeartbeats 400000 in
theorem byte_any (B : Nat) (a : Option Addr) (n cap i : Nat) (h : Int) (w : World) (hc : Cur w B a n cap i h) :
 Calls Tryz.prog 55 #[.pointer (some ⟨B, 0, none⟩)] w (BPost B a n cap i h w) := by
 have HC := qd hc
 obtain ⟨h0, h1, h2, h3, h4, h5, h6, h7, h8⟩ := hc
 clear h8
 go_enter Tryz.func55, Tryz.ntmps55
 go_wp2
 have hH : nextH h = wrap64 (wrap64 (h * 6364136223846793005) + 1442695040888963407) := rfl
 rw [← hH]
 clear hH
 have HS := qd (fun k => HC.out.setH (nextH h) k)
 have HO := qd ((OnlyB.refl B w).set 2 (.int .i64 (nextH h)))
 have hbd := bt_bd (nextH h)
 have HB : Hid (bits .and .i64 (bits .xor .i64 (nextH h / 8589934592) (nextH h / 35184372088832)) 255 = bt (nextH h)) := qd (and255 _)
 generalize hgH : nextH h = H at *
 have HH := qd hgH
 clear hgH
 clear h1 h2 h3 h4 h5 h0
 obtain ⟨W1, hW1⟩ : ∃ W1, W1 = w.setCell ⟨B, 2, none⟩ (.int .i64 H) := ⟨_, rfl⟩
 rw [← hW1] at HS HO ⊢
 clear hW1
 obtain ⟨g0, g1, g2, g3, g4, g5, _, _, g8⟩ := HS.out 0
 have G8 := qd g8
 clear g8
 rw [show W1.drewN 0 = W1 from rfl] at g0 g1 g2 g3 g4 g5
 go_quiet (fail)
 rw [HB.out]
 generalize hgx : bt H = x at *
 have HX := qd hgx
 clear hgx
 by_cases hlt : i < n
 · have d1 : decide (i < n) = true := by simpa using hlt
   have d2 : decide ((i : Int) < (n : Int)) = true := by simp; omega
   obtain ⟨b, off, c, rfl, hbB, hcc, c0, c1⟩ := G8.out i hlt
   rw [show W1.drewN 0 = W1 from rfl] at hcc
   go_wp2
   go_quiet (fail)
   go_wp2
   have s1 : IntKind.i64.wrap (x + c) = x + c := IntWalk.i64_in _ (by omega)
   have s2 := and255 (x + c)
   have s3 : 0 ≤ (x + c) % 256 ∧ (x + c) % 256 ≤ 255 := by omega
   have s4 : (0 : Int) ≤ (i : Int) := by omega
   have s5 : (i : Int) < (n : Int) := by omega
   go_quiet (fail)
   clear s1 s2
   go_wp2
   go_ret
   refine ⟨_, i + 1, s3.1, s3.2, rfl, ?_, Or.inl ⟨hlt, rfl⟩, ?_⟩
   · have q := fun k => (HS.out k).setI (i + 1) hlt 0
     rw [show ((i + 1 : Nat) : Int) = (i : Int) + 1 by omega] at q
     rw [HH.out]
     exact q _
   · exact (HO.out.drewN _).set 1 _
 · have d1 : decide (i < n) = false := by simpa using hlt
   have d2 : decide ((i : Int) < (n : Int)) = false := by simp; omega
   go_wp2
   go_quiet (fail)
   go_wp2
   go_ret
   refine ⟨_, n, hbd.1, hbd.2, rfl, ?_, Or.inr ⟨by omega, rfl, ?_⟩, ?_⟩
   · obtain rfl : i = n := by omega
     rw [HH.out]
     exact (HS.out _).drewN _
   · rw [HH.out, HX.out]
   · exact (HO.out.drewN _).drewN _
def CurE (w : World) (B : Nat) : Prop := ∃ (a : Option Addr) (n cap i : Nat) (h : Int), Cur w B a n cap i h
theorem CurE.lt {w : World} {B : Nat} (h : CurE w B) : B < w.heap.size := by obtain ⟨_, _, _, _, _, c⟩ := h; exact c.lt
theorem CurE.kept {w w' : World} {B C : Nat} (h : CurE w B) (hb : Below C w w') (hC : B < C) : CurE w' B := by
 obtain ⟨a, n, cap, i, h, c⟩ := h
 exact ⟨a, n, cap, i, h, Nat.lt_of_lt_of_le c.lt hb.size, (hb.cell (p := ⟨B, 0, none⟩) hC).trans c.c0, (hb.cell (p := ⟨B, 1, none⟩) hC).trans c.c1, (hb.cell (p := ⟨B, 2, none⟩) hC).trans c.c2, (hb.frozen (p := ⟨B, 1, none⟩) hC).trans c.f1, (hb.frozen (p := ⟨B, 2, none⟩) hC).trans c.f2, c.le, c.nle, fun j hj => by
  obtain ⟨b, off, x, e, h1, h2, h3⟩ := c.code j hj
  exact ⟨b, off, x, e, h1, (hb.cell (p := ⟨b, off + j, none⟩) (Nat.lt_trans h1 hC)).trans h2, h3⟩⟩
theorem OnlyB.cellAt {B : Nat} {w w' : World} (h : OnlyB B w w') {g o : Nat} (hg : g < w.heap.size) (hn : g ≠ B) : w'.cell? ⟨g, o, none⟩ = w.cell? ⟨g, o, none⟩ :=
 cob (h.block g hg (by simpa using fun e => hn e))
def GotI (P : Int → Prop) (B : Nat) (w : World) (e : Ending) (w' : World) : Prop := ∃ x : Int, P x ∧ e = .returned (.int .i64 x) ∧ CurE w' B ∧ OnlyB B w w'
def GotB (B : Nat) (w : World) (e : Ending) (w' : World) : Prop := ∃ b : Bool, e = .returned (.bool b) ∧ CurE w' B ∧ OnlyB B w w'
def GotS (P : ByteArray → Prop) (B : Nat) (w : World) (e : Ending) (w' : World) : Prop := ∃ s : ByteArray, P s ∧ e = .returned (.string s) ∧ CurE w' B ∧ OnlyB B w w'
theorem byte_some (B : Nat) (w : World) (hc : CurE w B) :
 Calls Tryz.prog 55 #[.pointer (some ⟨B, 0, none⟩)] w (GotI (fun x => 0 ≤ x ∧ x ≤ 255) B w) := by
 obtain ⟨a, n, cap, i, h, c⟩ := hc
 exact (byte_any B a n cap i h w c).mono fun e w' ⟨x, i', h0, h1, he, c', _, ho⟩ => ⟨x, ⟨h0, h1⟩, he, ⟨_, _, _, _, _, c'⟩, ho⟩
set_option maxHeartbeats 400000 in
theorem below_any (B : Nat) (k : Int) (w : World) (hc : CurE w B) (hk : 1 ≤ k) (hk2 : k ≤ 9223372036854775807) :
 Calls Tryz.prog 39 #[.pointer (some ⟨B, 0, none⟩), .int .i64 k] w (GotI (fun x => 0 ≤ x ∧ x < k) B w) := by
 by_cases h6 : k ≤ 256
 · go_enter Tryz.func39, Tryz.ntmps39
   go_wp2_with fail
   refine (byte_some B _ hc).mono ?_
   rintro e w1 ⟨x, ⟨x0, x1⟩, rfl, c1, o1⟩
   go_wp2
   go_ret
   exact ⟨_, ⟨Int.emod_nonneg _ (by omega), Int.emod_lt_of_pos _ (by omega)⟩, rfl, c1, o1⟩
 · go_enter Tryz.func39, Tryz.ntmps39
   go_wp2_with fail
   refine (byte_some B _ hc).mono ?_
   rintro e w1 ⟨x, ⟨x0, x1⟩, rfl, c1, o1⟩
   go_wp2_with fail
   refine (byte_some B _ c1).mono ?_
   rintro e w2 ⟨y, ⟨y0, y1⟩, rfl, c2, o2⟩
   go_wp2_with fail
   refine (byte_some B _ c2).mono ?_
   rintro e w3 ⟨z, ⟨z0, z1⟩, rfl, c3, o3⟩
   go_wp2_with fail
   refine (byte_some B _ c3).mono ?_
   rintro e w4 ⟨v, ⟨v0, v1⟩, rfl, c4, o4⟩
   go_wp2
   go_ret
   exact ⟨_, ⟨Int.emod_nonneg _ (by omega), Int.emod_lt_of_pos _ (by omega)⟩, rfl, c4, o1.trans (o2.trans (o3.trans o4))⟩
theorem once_any (B : Nat) (k : Int) (w : World) (hc : CurE w B) (hk : 1 ≤ k) (hk2 : k ≤ 9223372036854775807) :
 Calls Tryz.prog 25 #[.pointer (some ⟨B, 0, none⟩), .int .i64 k] w (GotB B w) := by
 go_enter Tryz.func25, Tryz.ntmps25
 go_wp2_with fail
 refine (below_any B k _ hc hk hk2).mono ?_
 rintro e w1 ⟨x, ⟨x0, x1⟩, rfl, c1, o1⟩
 go_wp2
 go_ret
 exact ⟨_, rfl, c1, o1⟩
def ListI (P : Int → Prop) (w : World) (g m : Nat) : Prop := g < w.heap.size ∧ ∀ j, j < m → ∃ z, P z ∧ w.cell? ⟨g, j, none⟩ = some (.int .i64 z)
def ListS (P : ByteArray → Prop) (w : World) (g m : Nat) : Prop := g < w.heap.size ∧ ∀ j, j < m → ∃ z, P z ∧ w.cell? ⟨g, j, none⟩ = some (.string z)
theorem pickInt_any (P : Int → Prop) (B g m cap : Nat) (w : World) (hc : CurE w B) (hl : ListI P w g m) (hg : g ≠ B) (hm : 1 ≤ m) (hm2 : m ≤ 1048576) :
 Calls Tryz.prog 41 #[.pointer (some ⟨B, 0, none⟩), .slice (some ⟨g, 0, none⟩) m cap] w (GotI P B w) := by
 have HL := qd hl
 clear hl
 go_enter Tryz.func41, Tryz.ntmps41
 go_wp2_with fail
 refine (below_any B m _ hc (by omega) (by omega)).mono ?_
 rintro e w1 ⟨x, ⟨x0, x1⟩, rfl, c1, o1⟩
 obtain ⟨j, rfl⟩ : ∃ j : Nat, x = (j : Int) := ⟨x.toNat, by omega⟩
 obtain ⟨z, hz, hcz⟩ := HL.out.2 j (by omega)
 have hcz' : w1.cell? ⟨g, j, none⟩ = some (.int .i64 z) := (o1.cellAt HL.out.1 hg).trans hcz
 clear hcz
 go_wp2
 go_ret
 exact ⟨z, hz, rfl, c1, o1⟩
theorem pick_any (P : ByteArray → Prop) (B g m cap : Nat) (w : World) (hc : CurE w B) (hl : ListS P w g m) (hg : g ≠ B) (hm : 1 ≤ m) (hm2 : m ≤ 1048576) :
 Calls Tryz.prog 29 #[.pointer (some ⟨B, 0, none⟩), .slice (some ⟨g, 0, none⟩) m cap] w (GotS P B w) := by
 have HL := qd hl
 clear hl
 go_enter Tryz.func29, Tryz.ntmps29
 go_wp2_with fail
 refine (below_any B m _ hc (by omega) (by omega)).mono ?_
 rintro e w1 ⟨x, ⟨x0, x1⟩, rfl, c1, o1⟩
 obtain ⟨j, rfl⟩ : ∃ j : Nat, x = (j : Int) := ⟨x.toNat, by omega⟩
 obtain ⟨z, hz, hcz⟩ := HL.out.2 j (by omega)
 have hcz' : w1.cell? ⟨g, j, none⟩ = some (.string z) := (o1.cellAt HL.out.1 hg).trans hcz
 clear hcz
 go_wp2
 go_ret
 exact ⟨z, hz, rfl, c1, o1⟩
def Code8 (w : World) (a : Option Addr) (n : Nat) : Prop := CodeOk w w.heap.size a n
theorem Code8.kept {w w' : World} {a : Option Addr} {n : Nat} (h : Code8 w a n) (hb : Below w.heap.size w w') : Code8 w' a n := CodeOk.kept h hb hb.size
theorem cur_new (a : Option Addr) (n cap : Nat) (H : Int) (T : TypeId) (w : World) (hn : n ≤ 1048576) (hc : Code8 w a n) :
 CurE (w.alloc (.cells #[.slice a n cap, .int .i64 0, .int .i64 H] T)) w.heap.size := by
 refine ⟨a, n, cap, 0, H, by simp, ?_, ?_, ?_, ?_, ?_, Nat.zero_le _, hn, CodeOk.kept hc ((Below.refl _ _).alloc (Nat.le_refl _) _) (Nat.le_refl _)⟩
 all_goals go_keep
set_option maxRecDepth 100000 in
set_option maxHeartbeats 1000000 in
theorem new_any (a : Option Addr) (n cap : Nat) (w : World) (hn : n ≤ 1048576) (hc : Code8 w a n) :
 Calls Tryz.prog 21 #[.slice a n cap] w fun e w' => e = .returned (.pointer (some ⟨w.heap.size, 0, none⟩)) ∧ CurE w' w.heap.size ∧ Below w.heap.size w w' := by
 have HC := qd hc
 clear hc
 go_enter Tryz.func21, Tryz.ntmps21
 go_wp2
 go_loop [3, 4] (fun hh i => ∃ (H : Int) (k : Nat), k ≤ n ∧ i = .int .i64 k ∧ hh = .int .i64 H) (fun _ i => n - (intOf i).toNat)
 case atStart => exact ⟨_, 0, Nat.zero_le _, rfl, rfl⟩
 case round =>
  obtain ⟨H, k, hk, rfl, rfl⟩ := hrel
  by_cases hlt : k < n
  · by_cases h4 : k < 4000
    · obtain ⟨b, off, c, rfl, hbB, hcc, c0, c1⟩ := HC.out k hlt
      go_wp2
      go_round
      case rel => exact ⟨_, k + 1, by omega, by go_num, rfl⟩
      case measure => simp [intOf]; omega
    · go_wp2
      go_ret
      exact ⟨rfl, cur_new a n cap H _ w hn HC.out, (Below.refl _ _).alloc (Nat.le_refl _) _⟩
  · go_wp2
    go_ret
    exact ⟨rfl, cur_new a n cap H _ w hn HC.out, (Below.refl _ _).alloc (Nat.le_refl _) _⟩
theorem OnlyB.alloc {B : Nat} {w w' : World} (h : OnlyB B w w') (o : Obj) : OnlyB B w (w'.alloc o) :=
 h.trans ⟨rfl, rfl, rfl, by simp, fun j hj _ => ((Below.refl w'.heap.size w').alloc (Nat.le_refl _) o).block j hj⟩
theorem CurE.alloc {w : World} {B : Nat} (h : CurE w B) (o : Obj) : CurE (w.alloc o) B := h.kept (C := w.heap.size) ((Below.refl _ _).alloc (Nat.le_refl _) o) h.lt
theorem listI_alloc {P : Int → Prop} (zs : List Int) (T : TypeId) (w : World) (cs : Array Value) (e : cs = (zs.map (Value.int .i64)).toArray) (hP : ∀ z ∈ zs, P z) : ListI P (w.alloc (.cells cs T)) w.heap.size zs.length := by
 refine ⟨by simp, fun j hj => ⟨zs[j], hP _ (List.getElem_mem hj), ?_⟩⟩
 rw [World.cell?_alloc_new, e]
 simp [hj]
theorem listS_alloc {P : ByteArray → Prop} (zs : List ByteArray) (T : TypeId) (w : World) (cs : Array Value) (e : cs = (zs.map Value.string).toArray) (hP : ∀ z ∈ zs, P z) : ListS P (w.alloc (.cells cs T)) w.heap.size zs.length := by
 refine ⟨by simp, fun j hj => ⟨zs[j], hP _ (List.getElem_mem hj), ?_⟩⟩
 rw [World.cell?_alloc_new, e]
 simp [hj]
def CurS (B : Nat) (w w' : World) : Prop := CurE w' B ∧ OnlyB B w w'
theorem CurS.drew {B : Nat} {w w' : World} (h : CurS B w w') : CurS B w w'.drew := ⟨h.1.kept (C := w'.heap.size) (Below.refl _ _).drew h.1.lt, h.2.drewN 1⟩
theorem CurS.alloc {B : Nat} {w w' : World} (h : CurS B w w') (o : Obj) : CurS B w (w'.alloc o) := ⟨h.1.alloc o, h.2.alloc o⟩
theorem CurS.step {B : Nat} {w W w' : World} (h : CurS B w W) (c : CurE w' B) (o : OnlyB B W w') : CurS B w w' := ⟨c, h.2.trans o⟩
theorem CurS.ne {B : Nat} {w w' : World} (h : CurS B w w') : w'.heap.size ≠ B := by have := h.1.lt; omega
theorem CurS.cur {B : Nat} {w w' : World} (h : CurS B w w') : CurE w' B := h.1
theorem CurS.only {B : Nat} {w w' : World} (h : CurS B w w') : OnlyB B w w' := h.2
def Short (k : Nat) (z : ByteArray) : Prop := z.size ≤ k
theorem ListS.drew {P : ByteArray → Prop} {w : World} {g m : Nat} (h : ListS P w g m) : ListS P w.drew g m := h
theorem ListI.drew {P : Int → Prop} {w : World} {g m : Nat} (h : ListI P w g m) : ListI P w.drew g m := h
def l6 : List ByteArray := [⟨#[48]⟩, ⟨#[65]⟩, ⟨#[0]⟩, ⟨#[57]⟩, ⟨#[93]⟩, ⟨#[92]⟩]
theorem laidOut : laidOutB Tryz.pinned.checked.prog = true := by kernel_rfl
theorem cellsU8 : Tryz.prog.cellsOf 5 = 1 := by kernel_rfl
set_option maxRecDepth 100000 in
theorem open_code {H : Type} {enc : TypeId × Value → H} {W : World} {base : Nat} {v : Value} {d : DataW H} {p : List MemPlace} (hv : Value.okWide Tryz.prog W .any base 22 v) (h : DataW.Trod enc Tryz.prog W 0 (fun _ => true) true 22 v d p) :
 ∃ (a : Option Addr) (n cap : Nat), v = .slice a n cap ∧ n ≤ maxLen ∧ Code8 W a n := by
 obtain ⟨a0, len, cap, rfl⟩ := okWide_slice Tryz.underlying22 hv
 obtain ⟨fuel, hf⟩ := h
 rcases open_ints Tryz.underlying22 Tryz.underlying5 cellsU8 hf with ⟨he, hx⟩ | ⟨a, len', cap', zs, he, hb, hl, hm, hz, hx, hc, hw⟩
 · simp [Value.cells] at he
   obtain ⟨rfl, rfl, rfl⟩ := he
   exact ⟨none, 0, 0, rfl, Nat.zero_le _, fun j hj => absurd hj (Nat.not_lt_zero _)⟩
 · simp [Value.cells] at he
   obtain ⟨rfl, rfl, rfl⟩ := he
   refine ⟨some a, len, cap, rfl, Nat.le_trans hl hm, fun j hj => ?_⟩
   have hlz : zs.length = cap := by simpa using hz
   obtain ⟨b, off, spot⟩ := a
   have hspot : spot = none := by simpa [Addr.add] using World.cell?_spot (hc 0 (by omega))
   subst hspot
   have hcj := hc j (by omega)
   rw [add_plain] at hcj
   have hlt := World.block_lt_of_cell? _ _ hcj
   have hwj := hw (zs.getD j 0) (by rw [List.getD_eq_getElem?_getD, List.getElem?_eq_getElem (by omega)]; exact List.getElem_mem _)
   have hb2 : 0 ≤ zs.getD j 0 ∧ zs.getD j 0 ≤ 255 := by simpa [Lit.wf, IntKind.min, IntKind.max, IntKind.signed, IntKind.bits] using hwj
   exact ⟨b, off, zs.getD j 0, rfl, hlt, hcj, hb2.1, hb2.2⟩
end Go.Proofs.YtcimhpdpfckgiaaGreatDoor.kit
