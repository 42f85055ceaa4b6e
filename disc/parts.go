package disc

// The conversions here keep each product a rounded one of its own: without them a product and a sum may be one operation.

// Times is the product by floats, in the stated order.
func Times(a, b complex128) complex128 {
	ar, ai, br, bi := real(a), imag(a), real(b), imag(b)
	return complex(float64(ar*br)-float64(ai*bi), float64(ar*bi)+float64(ai*br))
}

// Over is the quotient by floats, in the stated order.
func Over(a, b complex128) complex128 {
	ar, ai, br, bi := real(a), imag(a), real(b), imag(b)
	d := float64(br*br) + float64(bi*bi)
	return complex((float64(ar*br)+float64(ai*bi))/d, (float64(ai*br)-float64(ar*bi))/d)
}
