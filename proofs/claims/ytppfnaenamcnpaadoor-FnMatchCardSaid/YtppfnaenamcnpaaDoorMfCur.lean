/-
  Contract of spec.l01Byte, the draws' cursor, over this seat's translation: it tells a number of 0 .. 255, goes on by one state, and turns nothing but the cursor. Conditions: the cursor and the bytes that it goes over are known.
-/
import Derived.Test.YtppfnaenamcnpaaDoorMfInfo
import Derived.Test.YtppfnaenamcnpaaDoorMfKit
import Derived.Deep.QuietTactic
import Derived.BigQuiet
import Derived.IntWalk
set_option linter.unusedVariables false
namespace Go.Proofs.YtppfnaenamcnpaaDoor.kit
open Go.ChangeShapes Go.WideShapes Go.ChangeAt Go.RowKit
def CodeOk (w : World) (B : Nat) (a : Option Addr) (n : Nat) : Prop :=
 ∀ j, j < n → ∃ (b off : Nat) (c : Int), a = some ⟨b, off, none⟩ ∧ b < B ∧ w.cell? ⟨b, off + j, none⟩ = some (.int .u8 c) ∧ 0 ≤ c ∧ c ≤ 255
theorem below_drewK {B : Nat} {a w : World} (h : Below B a w) (n : Nat) : Below B a (w.drewN n) := ⟨h.os, h.tape, h.output, h.size, h.block⟩
theorem CodeOk.kept {w w' : World} {B C : Nat} {a : Option Addr} {n : Nat} (h : CodeOk w B a n) (hb : Below B w w') (hC : B ≤ C) : CodeOk w' C a n := by
 intro j hj
 obtain ⟨b, off, c, e, h1, h2, h3⟩ := h j hj
 exact ⟨b, off, c, e, Nat.lt_of_lt_of_le h1 hC, (hb.cell (p := ⟨b, off + j, none⟩) h1).trans h2, h3⟩
structure Cur (w : World) (B : Nat) (a : Option Addr) (n cap : Nat) (i : Nat) (h : Int) : Prop where
 lt : B < w.heap.size
 c0 : w.cell? ⟨B, 0, none⟩ = some (.slice a n cap)
 c1 : w.cell? ⟨B, 1, none⟩ = some (.int .i64 (i : Int))
 c2 : w.cell? ⟨B, 2, none⟩ = some (.int .i64 h)
 f1 : w.frozen? ⟨B, 1, none⟩ = false
 f2 : w.frozen? ⟨B, 2, none⟩ = false
 le : i ≤ n
 nle : n ≤ 1048576
 code : CodeOk w B a n
def OnlyB (B : Nat) (w w' : World) : Prop := w.grownBy w' (some B)
theorem OnlyB.below {B : Nat} {w w' : World} (h : OnlyB B w w') (hB : B < w.heap.size) : Below B w w' :=
 Below.grown (Below.refl _ _) h (Nat.le_of_lt hB) (fun k e => by cases e; exact Nat.le_refl _)
theorem OnlyB.drewN {B : Nat} {w w' : World} (h : OnlyB B w w') (n : Nat) : OnlyB B w (w'.drewN n) := ⟨h.os, h.tape, h.output, h.size, h.block⟩
theorem OnlyB.refl (B : Nat) (w : World) : OnlyB B w w := World.grownBy.refl w _
theorem OnlyB.trans {B : Nat} {x y z : World} (h : OnlyB B x y) (k : OnlyB B y z) : OnlyB B x z :=
 ⟨k.os.trans h.os, k.tape.trans h.tape, k.output.trans h.output, Nat.le_trans h.size k.size, fun j hj hn => (k.block j (Nat.lt_of_lt_of_le hj h.size) hn).trans (h.block j hj hn)⟩
theorem OnlyB.set {B : Nat} {w w' : World} (h : OnlyB B w w') (o : Nat) (v : Value) : OnlyB B w (w'.setCell ⟨B, o, none⟩ v) :=
 h.trans ⟨rfl, rfl, rfl, by simp, fun j _ hn => Below.heap_setCell _ _ _ j (fun e => hn (by rw [e]))⟩
theorem and255 (n : Int) : bits .and .i64 n 255 = n % 256 := by
 have h255 : (BitVec.ofInt 64 255).toNat = 2 ^ 8 - 1 := by decide
 have key : (BitVec.ofInt 64 n &&& BitVec.ofInt 64 255).toNat = (n % ((2 ^ 64 : Nat) : Int)).toNat % 2 ^ 8 := by
  rw [BitVec.toNat_and, BitVec.toNat_ofInt, h255, Nat.and_two_pow_sub_one_eq_mod]
 show IntKind.i64.wrap ((BitVec.ofInt 64 n &&& BitVec.ofInt 64 255).toNat : Nat) = n % 256
 rw [key, IntKind.wrap_i64]
 omega
def nextH (h : Int) : Int := wrap64 (wrap64 (h * 6364136223846793005) + 1442695040888963407)
def bt (H : Int) : Int := (bits .xor .i64 (H / 8589934592) (H / 35184372088832)) % 256
theorem bt_bd (H : Int) : 0 ≤ bt H ∧ bt H ≤ 255 := by unfold bt; omega
def BPost (B : Nat) (a : Option Addr) (n cap i : Nat) (h : Int) (w : World) (e : Ending) (w' : World) : Prop :=
 ∃ (x : Int) (i' : Nat), 0 ≤ x ∧ x ≤ 255 ∧ e = .returned (.int .i64 x) ∧ Cur w' B a n cap i' (nextH h) ∧ (i < n ∧ i' = i + 1 ∨ i = n ∧ i' = n ∧ x = bt (nextH h)) ∧ OnlyB B w w'
theorem Cur.setH {w : World} {B : Nat} {a : Option Addr} {n cap i : Nat} {h : Int} (c : Cur w B a n cap i h) (H : Int) (k : Nat) : Cur ((w.setCell ⟨B, 2, none⟩ (.int .i64 H)).drewN k) B a n cap i H := by
 have hb : Below B w (w.setCell ⟨B, 2, none⟩ (.int .i64 H)) := (Below.refl B w).setCell (Nat.le_refl _) _
 refine ⟨by simpa using c.lt, ?_, ?_, ?_, ?_, ?_, c.le, c.nle, c.code.kept (below_drewK hb k) (Nat.le_refl _)⟩
 · exact (World.cell?_setCell_other w _ _ _ (by intro x; cases x)).trans c.c0
 · exact (World.cell?_setCell_other w _ _ _ (by intro x; cases x)).trans c.c1
 · exact World.cell?_setCell_same w _ _ c.c2
 · exact (World.frozen?_setCell ..).trans c.f1
 · exact (World.frozen?_setCell ..).trans c.f2
theorem Cur.setI {w : World} {B : Nat} {a : Option Addr} {n cap i : Nat} {h : Int} (c : Cur w B a n cap i h) (j : Nat) (hj : j ≤ n) (k : Nat) : Cur ((w.setCell ⟨B, 1, none⟩ (.int .i64 (j : Int))).drewN k) B a n cap j h := by
 have hb : Below B w (w.setCell ⟨B, 1, none⟩ (.int .i64 (j : Int))) := (Below.refl B w).setCell (Nat.le_refl _) _
 refine ⟨by simpa using c.lt, ?_, ?_, ?_, ?_, ?_, hj, c.nle, c.code.kept (below_drewK hb k) (Nat.le_refl _)⟩
 · exact (World.cell?_setCell_other w _ _ _ (by intro x; cases x)).trans c.c0
 · exact World.cell?_setCell_same w _ _ c.c1
 · exact (World.cell?_setCell_other w _ _ _ (by intro x; cases x)).trans c.c2
 · exact (World.frozen?_setCell ..).trans c.f1
 · exact (World.frozen?_setCell ..).trans c.f2
theorem Cur.drewN {w : World} {B : Nat} {a : Option Addr} {n cap i : Nat} {h : Int} (c : Cur w B a n cap i h) (k : Nat) : Cur (w.drewN k) B a n cap i h :=
 ⟨c.lt, c.c0, c.c1, c.c2, c.f1, c.f2, c.le, c.nle, c.code⟩
set_option maxHeartbeats 400000 in
theorem byte_any (B : Nat) (a : Option Addr) (n cap i : Nat) (h : Int) (w : World) (hc : Cur w B a n cap i h) :
 Calls Tryd.prog 75 #[.pointer (some ⟨B, 0, none⟩)] w (BPost B a n cap i h w) := by
 have HC := Lib.hid hc
 obtain ⟨h0, h1, h2, h3, h4, h5, h6, h7, h8⟩ := hc
 clear h8
 go_enter Tryd.func75, Tryd.ntmps75
 go_wp2
 have hH : nextH h = wrap64 (wrap64 (h * 6364136223846793005) + 1442695040888963407) := rfl
 rw [← hH]
 clear hH
 have HS := Lib.hid (fun k => HC.out.setH (nextH h) k)
 have HO := Lib.hid ((OnlyB.refl B w).set 2 (.int .i64 (nextH h)))
 have hbd := bt_bd (nextH h)
 have HB : Hid (bits .and .i64 (bits .xor .i64 (nextH h / 8589934592) (nextH h / 35184372088832)) 255 = bt (nextH h)) := Lib.hid (and255 _)
 generalize hgH : nextH h = H at *
 have HH := Lib.hid hgH
 clear hgH
 clear h1 h2 h3 h4 h5 h0
 obtain ⟨W1, hW1⟩ : ∃ W1, W1 = w.setCell ⟨B, 2, none⟩ (.int .i64 H) := ⟨_, rfl⟩
 rw [← hW1] at HS HO ⊢
 clear hW1
 obtain ⟨g0, g1, g2, g3, g4, g5, _, _, g8⟩ := HS.out 0
 have G8 := Lib.hid g8
 clear g8
 rw [show W1.drewN 0 = W1 from rfl] at g0 g1 g2 g3 g4 g5
 go_quiet (fail)
 rw [HB.out]
 generalize hgx : bt H = x at *
 have HX := Lib.hid hgx
 clear hgx
 by_cases hlt : i < n
 · have d1 : decide (i < n) = true := by simpa using hlt
   have d2 : decide ((i : Int) < (n : Int)) = true := by simp; omega
   obtain ⟨b, off, c, rfl, hbB, hcc, c0, c1⟩ := G8.out i hlt
   rw [show W1.drewN 0 = W1 from rfl] at hcc
   go_wp2
   go_quiet (fail)
   go_wp2
   have s1 : IntKind.i64.wrap (x + c) = x + c := IntWalk.i64_in _ (by omega)
   have s2 := and255 (x + c)
   have s3 : 0 ≤ (x + c) % 256 ∧ (x + c) % 256 ≤ 255 := by omega
   have s4 : (0 : Int) ≤ (i : Int) := by omega
   have s5 : (i : Int) < (n : Int) := by omega
   go_quiet (fail)
   clear s1 s2
   go_wp2
   go_ret
   refine ⟨_, i + 1, s3.1, s3.2, rfl, ?_, Or.inl ⟨hlt, rfl⟩, ?_⟩
   · have q := fun k => (HS.out k).setI (i + 1) hlt 0
     rw [show ((i + 1 : Nat) : Int) = (i : Int) + 1 by omega] at q
     rw [HH.out]
     exact q _
   · exact (HO.out.drewN _).set 1 _
 · have d1 : decide (i < n) = false := by simpa using hlt
   have d2 : decide ((i : Int) < (n : Int)) = false := by simp; omega
   go_wp2
   go_quiet (fail)
   go_wp2
   go_ret
   refine ⟨_, n, hbd.1, hbd.2, rfl, ?_, Or.inr ⟨by omega, rfl, ?_⟩, ?_⟩
   · obtain rfl : i = n := by omega
     rw [HH.out]
     exact (HS.out _).drewN _
   · rw [HH.out, HX.out]
   · exact (HO.out.drewN _).drewN _
end Go.Proofs.YtppfnaenamcnpaaDoor.kit
