/- Plain mathematics on 64-bit words as the walk writes them: no program is imported. -/
import Derived.WalkKit
namespace Go.Proofs.YtenibhmjcafbiaaGreatDoor
open Go Go.RowKit
/-- The words' operations, as the model writes them, behind names that the walk doesn't open. -/
def nt (a : Int) : Int := bits .xor .u64 IntKind.u64.max a
def an (a b : Int) : Int := bits .and .u64 a b
def orr (a b : Int) : Int := bits .or .u64 a b
def fo (b : Int) : Int := bits .or .u64 b (bits .or .u64 (IntKind.u64.wrap (bits .and .u64 b 134217726 * 4294967296)) (bits .and .u64 (b / 4294967296) 134217726))
/-- A word that fits. -/
def Fit (a : Int) : Prop := 0 ≤ a ∧ a < 18446744073709551616
def V (a : Int) : BitVec 64 := BitVec.ofInt 64 a
theorem V_nat (x : BitVec 64) : V (x.toNat : Int) = x := by
  unfold V; rw [BitVec.ofInt_natCast]; simp
theorem fit_nat (x : BitVec 64) : Fit (x.toNat : Int) := by
  have := x.isLt; unfold Fit; omega
theorem V_toNat {a : Int} (h : Fit a) : ((V a).toNat : Int) = a := by
  obtain ⟨h0, h1⟩ := h
  unfold V
  rw [BitVec.toNat_ofInt]
  omega
theorem V_inj {a b : Int} (ha : Fit a) (hb : Fit b) (h : V a = V b) : a = b := by
  rw [← V_toNat ha, ← V_toNat hb, h]
theorem wrap_nat (x : BitVec 64) : IntKind.u64.wrap (x.toNat : Int) = (x.toNat : Int) := by
  rw [IntKind.wrap_u64]; have := x.isLt; omega
theorem an_eq (a b : Int) : an a b = ((V a &&& V b).toNat : Int) := wrap_nat _
theorem orr_eq (a b : Int) : orr a b = ((V a ||| V b).toNat : Int) := wrap_nat _
theorem nt_eq (a : Int) : nt a = ((~~~ V a).toNat : Int) := by
  show IntKind.u64.wrap ((BitVec.ofInt 64 IntKind.u64.max ^^^ V a).toNat : Int) = _
  rw [wrap_nat]
  have e : BitVec.ofInt 64 IntKind.u64.max = BitVec.allOnes 64 := by decide
  rw [e, BitVec.allOnes_xor]
theorem fo_eq (b : Int) (h : Fit b) : fo b = ((V b ||| (((V b &&& 134217726#64) <<< 32) ||| ((V b >>> 32) &&& 134217726#64))).toNat : Int) := by
  have e1 : bits .and .u64 b 134217726 = ((V b &&& 134217726#64).toNat : Int) := wrap_nat _
  have e2 : BitVec.ofInt 64 (IntKind.u64.wrap (bits .and .u64 b 134217726 * 4294967296)) = (V b &&& 134217726#64) <<< 32 := by
    rw [e1, IntKind.wrap_u64]
    apply BitVec.eq_of_toNat_eq
    rw [BitVec.toNat_ofInt, BitVec.toNat_shiftLeft, Nat.shiftLeft_eq]
    omega
  have e3 : BitVec.ofInt 64 (b / 4294967296) = V b >>> 32 := by
    apply BitVec.eq_of_toNat_eq
    have hv := V_toNat h
    rw [BitVec.toNat_ofInt, BitVec.toNat_ushiftRight, Nat.shiftRight_eq_div_pow]
    obtain ⟨h0, h1⟩ := h
    omega
  have e4 : bits .and .u64 (b / 4294967296) 134217726 = (((V b >>> 32) &&& 134217726#64).toNat : Int) := by
    rw [← e3]; exact wrap_nat _
  have e5 : bits .or .u64 (IntKind.u64.wrap (bits .and .u64 b 134217726 * 4294967296)) (bits .and .u64 (b / 4294967296) 134217726) = ((((V b &&& 134217726#64) <<< 32) ||| ((V b >>> 32) &&& 134217726#64)).toNat : Int) := by
    rw [e4]
    show IntKind.u64.wrap ((BitVec.ofInt 64 (IntKind.u64.wrap (bits .and .u64 b 134217726 * 4294967296)) ||| V _).toNat : Int) = _
    rw [e2, V_nat]; exact wrap_nat _
  show bits .or .u64 b _ = _
  rw [e5]
  show IntKind.u64.wrap ((V b ||| V _).toNat : Int) = _
  rw [V_nat]; exact wrap_nat _
theorem an_fit (a b : Int) : Fit (an a b) := by rw [an_eq]; exact fit_nat _
theorem orr_fit (a b : Int) : Fit (orr a b) := by rw [orr_eq]; exact fit_nat _
theorem nt_fit (a : Int) : Fit (nt a) := by rw [nt_eq]; exact fit_nat _
theorem fo_fit (a : Int) (h : Fit a) : Fit (fo a) := by rw [fo_eq a h]; exact fit_nat _
theorem V_an (a b : Int) : V (an a b) = V a &&& V b := by rw [an_eq, V_nat]
theorem V_orr (a b : Int) : V (orr a b) = V a ||| V b := by rw [orr_eq, V_nat]
theorem V_nt (a : Int) : V (nt a) = ~~~ V a := by rw [nt_eq, V_nat]
theorem V_fo (a : Int) (h : Fit a) : V (fo a) = V a ||| (((V a &&& 134217726#64) <<< 32) ||| ((V a >>> 32) &&& 134217726#64)) := by rw [fo_eq a h, V_nat]
end Go.Proofs.YtenibhmjcafbiaaGreatDoor
